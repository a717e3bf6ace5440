/- Several texts, joined. -/
import Derived.WalkKit
import Derived.Handy
import Derived.Lib.Hide
import Derived.WalkSpells
import Derived.WalkLawsBesides
import Derived.BigQuiet
import Derived.Deep.QuietTactic
import Derived.WalkSmall
import Derived.RangeFuncNested
import Derived.RangeFuncBound
import Derived.RangeFuncCalls
import Derived.RangeFuncLeaves
import Derived.Shelf.Abstract
import Derived.Shelf.RegionOpen
import Derived.OwnWalkIn
import Derived.TacticsInMore
import Derived.LoopNIn
import Derived.LoopIn
import Derived.ProofKit
import Derived.OpenShut
import Derived.ChangeOld
import Derived.Below
import Derived.Deep.Grids

/- Readings of slices in memory, and how they stay. -/
section
namespace Go.Proofs.YtfhodbnhaaiceaaDoor
open Go.RowKit
namespace K

theorem ret_int {k : IntKind} {a b : Int} (h : a = b) : Ending.returned (.int k a) = .returned (.int k b) := by rw [h]
theorem ret_bool {a b : Bool} (h : a = b) : Ending.returned (.bool a) = .returned (.bool b) := by rw [h]

/-- A slice value that reads as a list of ints. -/
def Ints (w : World) (v : Value) (l : List Int) : Prop :=
  ∃ p cap, v = .slice p l.length cap ∧ l.length ≤ cap ∧ l.length * 8 ≤ 140737488351232 ∧ (0 < l.length → ∃ b off, p = some ⟨b, off, none⟩ ∧ ∀ j, j < l.length → w.cell? ⟨b, off + j, none⟩ = some (.int .i64 (l.getD j 0)))

theorem Ints.below {w w' : World} {v : Value} {l : List Int} (h : Ints w v l) (hb : Below w.heap.size w w') : Ints w' v l := by
  obtain ⟨p, cap, hv, hl, hm, hc⟩ := h
  refine ⟨p, cap, hv, hl, hm, fun h0 => ?_⟩
  obtain ⟨b, off, hp, hc⟩ := hc h0
  exact ⟨b, off, hp, fun j hj => (hb.cell (p := ⟨b, off + j, none⟩) (World.block_lt_of_cell? _ _ (hc j hj))).trans (hc j hj)⟩

/-- A slice value that reads as a list of bools. -/
def Bools (w : World) (v : Value) (l : List Bool) : Prop :=
  ∃ p cap, v = .slice p l.length cap ∧ l.length ≤ cap ∧ l.length ≤ 140737488351232 ∧ (0 < l.length → ∃ b off, p = some ⟨b, off, none⟩ ∧ ∀ j, j < l.length → w.cell? ⟨b, off + j, none⟩ = some (.bool (l.getD j false)))

theorem Bools.below {w w' : World} {v : Value} {l : List Bool} (h : Bools w v l) (hb : Below w.heap.size w w') : Bools w' v l := by
  obtain ⟨p, cap, hv, hl, hm, hc⟩ := h
  refine ⟨p, cap, hv, hl, hm, fun h0 => ?_⟩
  obtain ⟨b, off, hp, hc⟩ := hc h0
  exact ⟨b, off, hp, fun j hj => (hb.cell (p := ⟨b, off + j, none⟩) (World.block_lt_of_cell? _ _ (hc j hj))).trans (hc j hj)⟩
end K
end Go.Proofs.YtfhodbnhaaiceaaDoor
end

/- A range over a function, said by rounds' numbers: what the iterator asks of a round, and the law of the statement. My own, over the kit's laws of the statement. -/
section
namespace Go.Proofs.RA
open Go.RowKit

/-- The blocks of which p holds lie as they lay; no block has gone. -/
structure Keep (p : Nat → Prop) (w w' : World) : Prop where
  os : w'.os = w.os
  tape : w'.tape = w.tape
  output : w'.output = w.output
  size : w.heap.size ≤ w'.heap.size
  block : ∀ k, k < w.heap.size → p k → w'.heap[k]? = w.heap[k]?

section
variable {p q : Nat → Prop} {a b c w w' : World}
theorem Keep.refl (p : Nat → Prop) (w : World) : Keep p w w := ⟨rfl, rfl, rfl, Nat.le_refl _, fun _ _ _ => rfl⟩
theorem Keep.trans (h : Keep p a b) (k : Keep p b c) : Keep p a c :=
  ⟨k.os.trans h.os, k.tape.trans h.tape, k.output.trans h.output, Nat.le_trans h.size k.size, fun i hi hp => (k.block i (Nat.lt_of_lt_of_le hi h.size) hp).trans (h.block i hi hp)⟩
theorem Keep.mono (h : Keep p a b) (hq : ∀ k, k < a.heap.size → q k → p k) : Keep q a b := ⟨h.os, h.tape, h.output, h.size, fun k hk hp => h.block k hk (hq k hk hp)⟩
theorem Keep.alloc (h : Keep p a b) (o : Obj) : Keep p a (b.alloc o) :=
  h.trans ⟨rfl, rfl, rfl, by simp, fun k hk _ => Below.heap_alloc _ _ _ hk⟩
theorem Keep.drew (h : Keep p a b) : Keep p a b.drew := ⟨h.os, h.tape, h.output, h.size, h.block⟩
theorem Keep.drewN (h : Keep p a b) (n : Nat) : Keep p a (b.drewN n) := ⟨h.os, h.tape, h.output, h.size, h.block⟩
theorem Keep.setCell (h : Keep p a b) {x : Addr} (hx : ¬ p x.block) (u : Value) : Keep p a (b.setCell x u) :=
  h.trans ⟨rfl, rfl, rfl, by simp [World.setCell], fun k _ hp => Below.heap_setCell _ _ _ _ (fun e => hx (e ▸ hp))⟩
theorem Keep.putObj (h : Keep p a b) {l : Nat} (hl : ¬ p l) (o : Obj) : Keep p a (b.putObj l o) :=
  h.trans ⟨rfl, rfl, rfl, by simp, fun k _ hp => World.putObj_heap_other (fun e => hl (e ▸ hp))⟩
theorem Keep.below (h : Keep p a b) (hb : Below b.heap.size b c) : Keep p a c :=
  h.trans ⟨hb.os, hb.tape, hb.output, hb.size, fun k hk _ => hb.block k hk⟩
theorem Keep.of_below {B : Nat} (hb : Below B a b) (hp : ∀ k, k < a.heap.size → p k → k < B) : Keep p a b :=
  ⟨hb.os, hb.tape, hb.output, hb.size, fun k hk h => hb.block k (hp k hk h)⟩
theorem Keep.to_below {B : Nat} (h : Keep p a b) (hB : B ≤ a.heap.size) (hp : ∀ k, k < B → p k) : Below B a b :=
  ⟨h.os, h.tape, h.output, h.size, fun k hk => h.block k (Nat.lt_of_lt_of_le hk hB) (hp k hk)⟩
theorem Keep.heap {k : Nat} {o : Obj} (h : Keep p a b) (hk : a.heap[k]? = some o) (hp : p k) : b.heap[k]? = some o :=
  (h.block k (Array.getElem?_eq_some_iff.1 hk).1 hp).trans hk
theorem Keep.cell {x : Addr} {v : Value} (h : Keep p a b) (hc : a.cell? x = some v) (hp : p x.block) : b.cell? x = some v :=
  (World.cell?_of_block (w := a) (h.block x.block (World.block_lt_of_cell? _ _ hc) hp)).trans hc
end

variable {P : Program}

/-- An iterator of N rounds, called in the world w: whatever invariant J abides what the iterator does to its own blocks Y; each round is handed arguments of which Arg holds, keeps the blocks Z, which the iterator reads, if it goes on. -/
def Iter (P : Program) (g : Nat) (lb : Array Value) (N : Nat) (Arg : Nat → World → Array Value → Prop) (Z Y : Nat → Prop) (w : World) : Prop :=
  ∀ (l : Nat) (J Jx : Nat → World → Prop),
    (∀ k A B, J k A → Keep (fun i => ¬ Y i) A B → J k B) → (∀ k A B, Jx k A → Keep (fun i => ¬ Y i) A B → Jx k B) →
    (∀ k A args, k < N → Arg k A args → J k A → YieldAt Fence.wide 0 P l args A fun e B => (e = .returned (.bool true) ∧ J (k + 1) B ∧ Keep Z A B) ∨ (e = .returned (.bool false) ∧ Jx (k + 1) B ∧ Keep Z A B)) →
    J 0 w →
    CallsIn Fence.wide 0 P g (#[.func (.yield l) #[] #[]] ++ lb) w fun e B => (∃ v, e = .returned v) ∧ (J N B ∨ ∃ k, k ≤ N ∧ Jx k B)

/-- How a round's body may be left. -/
def bodyPost (Z : Nat → Prop) (I : Nat → World → Prop) (Ix : Code → Nat → World → Prop) (k : Nat) (D : Nat) (W : World) : Exit → Act → World → Prop
  | .normal, _, W' => Keep (fun i => Z i ∨ i = D ∨ i = D + 1) W W' ∧ I k W'
  | .ret, _, W' => Keep (fun i => Z i ∨ i = D ∨ i = D + 1) W W' ∧ Ix .ret k W'
  | .exit id, _, W' => Keep (fun i => Z i ∨ i = D ∨ i = D + 1) W W' ∧ Ix (.exit id) k W'
  | .goto t, _, W' => Keep (fun i => Z i ∨ i = D ∨ i = D + 1) W W' ∧ Ix (.goto t) k W'
  | _, _, _ => False

set_option maxHeartbeats 1000000 in
/-- The statement 'for .. := range g { .. }' at an outermost loop. -/
theorem wpIn_range {g : Operand} {ps : Array Tmp} {assign body : Code} {Q : Exit → Act → World → Prop} {a : Act} {w : World}
    {gf : Nat} {lb : Array Value} (hg : a.eval g = .func (.func gf) #[] lb) (eg : ∀ args w, (callFunc gf args).run P w = .ok (.enter gf args) w)
    {N : Nat} {Arg : Nat → World → Array Value → Prop} {Z Y : Nat → Prop}
    (hit : ∀ W, Keep (fun _ => True) w W → W.heap.size = w.heap.size + 2 → Iter P gf lb N Arg Z Y W)
    (hZl : ¬ Z (w.heap.size + 1)) (hYD : ¬ Y w.heap.size) (hYl : ¬ Y (w.heap.size + 1))
    (hps : ∀ k A args, Arg k A args → args.size = ps.size)
    (hArg : ∀ k A B args, Arg k A args → Keep (fun i => i ≠ w.heap.size + 1) A B → Arg k B args)
    (I : Nat → World → Prop) (Ix : Code → Nat → World → Prop)
    (hI : ∀ k A B, I k A → Keep (fun i => ¬ (Y i ∨ i = w.heap.size ∨ i = w.heap.size + 1)) A B → I k B)
    (hIx : ∀ c k A B, Ix c k A → Keep (fun i => ¬ (Y i ∨ i = w.heap.size ∨ i = w.heap.size + 1)) A B → Ix c k B)
    (h0 : I 0 w) (a₁ : Array Value → Act)
    (hassign : ∀ (l : Nat) (args : Array Value) (W : World) (K : Act → World → Prop), args.size = ps.size → K (a₁ args) W →
      assign.wpIn (Fence.wide.inRound l) 0 P (Exit.then K (fun _ _ _ => False)) { tmps := (ps.zip args).foldl (fun t (p, v) => t.setIfInBounds p v) a.tmps, defers := [] } W)
    (hbody : ∀ (k : Nat) (W : World) (args : Array Value), k < N → Arg k W args → I k W → w.heap.size + 1 < W.heap.size → body.wpIn (Fence.wide.inRound (w.heap.size + 1)) 0 P (bodyPost Z I Ix (k + 1) w.heap.size W) (a₁ args) W)
    (hdone : ∀ (W : World), I N W → W.heap[w.heap.size]? = some (.deferred (some [])) → Q .normal { a with defers := { target := .collected w.heap.size, args := #[] } :: a.defers } W)
    (hstop : ∀ (c : Code) (k : Nat) (W : World), k ≤ N → Ix c k W → W.heap[w.heap.size]? = some (.deferred (some [])) → c.wpIn Fence.wide 0 P Q { a with defers := { target := .collected w.heap.size, args := #[] } :: a.defers } W) :
    (Code.rangeFunc g ps assign body).wpIn Fence.wide 0 P Q a w := by
  refine wpIn_rangeFunc ?_
  intro fn hfn
  obtain ⟨rec, hrec⟩ : ∃ rec : LoopState → Option Code → Loop, rec = fun st pe => { state := st, pending := pe, fn, tmps := a.tmps, params := ps, assign, body, defers := w.heap.size } := ⟨_, rfl⟩
  obtain ⟨W1, hW1⟩ : ∃ W1, (w.alloc (.deferred (some []))).alloc (.loop (rec .ready none)) = W1 := ⟨_, rfl⟩
  have hL1 : W1.heap[w.heap.size + 1]? = some (.loop (rec .ready none)) := by
    rw [← hW1]; have := World.alloc_heap_new (w.alloc (.deferred (some []))) (.loop (rec .ready none)); rwa [World.size_alloc] at this
  have hK1 : W1.heap[w.heap.size]? = some (.deferred (some [])) := by
    rw [← hW1]; exact (Below.heap_alloc _ _ _ (by simp)).trans (World.alloc_heap_new w _)
  have hkeep1 : Keep (fun _ => True) w W1 := by rw [← hW1]; exact ((Keep.refl _ _).alloc _).alloc _
  have hsz1 : W1.heap.size = w.heap.size + 2 := by rw [← hW1]; simp
  refine ⟨w.heap.size + 1, [{ target := .collected w.heap.size, args := #[] }], W1, { target := .fn (.func gf) lb, args := #[.func (.yield (w.heap.size + 1)) #[] #[]] }, W1, gf,
    #[.func (.yield (w.heap.size + 1)) #[] #[]] ++ lb, W1, ?_, ?_, fun _ _ => trivial, ?_, fun h => by simp [Fence.wide] at h, ?_⟩
  · rw [← hW1, hrec]; exact run_enterLoop_outer _ _ _ _ _
  · simp only [resolve, hg]
    simp [go_sem]
  · simp [invoke, go_sem, eg]
  · refine (hit W1 hkeep1 hsz1 (w.heap.size + 1)
      (fun k W => I k W ∧ W.heap[w.heap.size + 1]? = some (.loop (rec .ready none)) ∧ W.heap[w.heap.size]? = some (.deferred (some [])))
      (fun k W => ∃ c, Ix c k W ∧ W.heap[w.heap.size + 1]? = some (.loop (rec .done (some c))) ∧ W.heap[w.heap.size]? = some (.deferred (some [])))
      (fun k A B hs hk => ⟨hI k A B hs.1 (hk.mono fun i _ h hz => h (.inl hz)), hk.heap hs.2.1 hYl, hk.heap hs.2.2 hYD⟩)
      (fun k A B hs hk => by obtain ⟨c, hc, hl, hd⟩ := hs; exact ⟨c, hIx c k A B hc (hk.mono fun i _ h hz => h (.inl hz)), hk.heap hl hYl, hk.heap hd hYD⟩)
      ?_ ⟨hI 0 _ _ h0 (hkeep1.mono fun _ _ _ => trivial), hL1, hK1⟩).mono ?_
    · rintro k W args hk harg ⟨hi, hl, hd⟩
      have hlt : w.heap.size + 1 < W.heap.size := (Array.getElem?_eq_some_iff.1 hl).1
      have hsz := hps _ _ _ harg
      have hy := run_yield (P := P) (args := args) hl (by rw [hrec]; exact hsz)
      rw [hrec] at hy
      refine ⟨fn, _, assign, body, hy, roundIn_of_wpIn hfn (hassign _ args W _ hsz ⟨_, run_beginRound hl (by rw [hrec]), ?_⟩)⟩
      clear hy
      obtain ⟨W2, hW2⟩ : ∃ W2, W.putObj (w.heap.size + 1) (.loop { rec .ready none with state := .busy }) = W2 := ⟨_, rfl⟩
      rw [hW2]
      have hkW : Keep (fun i => i ≠ w.heap.size + 1) W W2 := by rw [← hW2]; exact (Keep.refl _ _).putObj (fun h => h rfl) _
      have hl2 : W2.heap[w.heap.size + 1]? = some (.loop { rec .ready none with state := .busy }) := by rw [← hW2]; exact World.putObj_heap_same hlt
      have hd2 : W2.heap[w.heap.size]? = some (.deferred (some [])) := hkW.heap hd (by omega)
      have hi2 : I k W2 := hI _ _ _ hi (hkW.mono fun i _ h hz => h (.inr (.inr hz)))
      refine wpIn_mono (hbody k W2 args hk (hArg _ _ _ _ harg hkW) hi2 (Nat.lt_of_lt_of_le hlt hkW.size)) ?_
      have fin : ∀ (jump : Option Code) (W3 : World), Keep (fun i => i = w.heap.size ∨ i = w.heap.size + 1) W2 W3 →
          ∃ W4, (Instr.endRound (w.heap.size + 1) jump).run P W3 = .ok (.bool jump.isNone) W4 ∧ Keep (fun i => i ≠ w.heap.size + 1) W3 W4 ∧
          W4.heap[w.heap.size + 1]? = some (.loop (rec (if jump.isNone then .ready else .done) jump)) ∧ W4.heap[w.heap.size]? = some (.deferred (some [])) := fun jump W3 hk3 => by
        have hl3 := hk3.heap hl2 (.inr rfl)
        have hd3 := hk3.heap hd2 (.inl rfl)
        have := run_endRound (P := P) jump hl3
        rw [hrec] at this ⊢
        exact ⟨_, this, (Keep.refl _ _).putObj (fun h => h rfl) _, World.putObj_heap_same (Array.getElem?_eq_some_iff.1 hl3).1, (World.putObj_heap_other (by omega)).trans hd3⟩
      have nZ : ∀ i, Z i → i ≠ w.heap.size + 1 := fun i hz e => hZl (e ▸ hz)
      rintro e a3 W3 hp
      cases e with
      | normal =>
        obtain ⟨hk3, hi3⟩ := hp
        obtain ⟨W4, hr, hk4, hl4, hd4⟩ := fin none W3 (hk3.mono fun i _ h => .inr h)
        refine ⟨_, _, hr, .inl ⟨rfl, ⟨hI _ _ _ hi3 (hk4.mono fun i _ h hz => h (.inr (.inr hz))), hl4, hd4⟩, ?_⟩⟩
        exact ((hkW.mono fun i _ h => nZ i h).trans (hk3.mono fun i _ h => .inl h)).trans (hk4.mono fun i _ h => nZ i h)
      | ret =>
        obtain ⟨hk3, hi3⟩ := hp
        obtain ⟨W4, hr, hk4, hl4, hd4⟩ := fin (some .ret) W3 (hk3.mono fun i _ h => .inr h)
        exact ⟨_, _, hr, .inr ⟨rfl, ⟨.ret, hIx _ _ _ _ hi3 (hk4.mono fun i _ h hz => h (.inr (.inr hz))), hl4, hd4⟩, ((hkW.mono fun i _ h => nZ i h).trans (hk3.mono fun i _ h => .inl h)).trans (hk4.mono fun i _ h => nZ i h)⟩⟩
      | exit id =>
        obtain ⟨hk3, hi3⟩ := hp
        obtain ⟨W4, hr, hk4, hl4, hd4⟩ := fin (some (.exit id)) W3 (hk3.mono fun i _ h => .inr h)
        exact ⟨_, _, hr, .inr ⟨rfl, ⟨.exit id, hIx _ _ _ _ hi3 (hk4.mono fun i _ h hz => h (.inr (.inr hz))), hl4, hd4⟩, ((hkW.mono fun i _ h => nZ i h).trans (hk3.mono fun i _ h => .inl h)).trans (hk4.mono fun i _ h => nZ i h)⟩⟩
      | goto t =>
        obtain ⟨hk3, hi3⟩ := hp
        obtain ⟨W4, hr, hk4, hl4, hd4⟩ := fin (some (.goto t)) W3 (hk3.mono fun i _ h => .inr h)
        exact ⟨_, _, hr, .inr ⟨rfl, ⟨.goto t, hIx _ _ _ _ hi3 (hk4.mono fun i _ h hz => h (.inr (.inr hz))), hl4, hd4⟩, ((hkW.mono fun i _ h => nZ i h).trans (hk3.mono fun i _ h => .inl h)).trans (hk4.mono fun i _ h => nZ i h)⟩⟩
      | panic ch => exact hp.elim
      | outgrown => exact hp.elim
    · rintro e W2 ⟨⟨v, rfl⟩, (⟨hi, hl, hk⟩ | ⟨k, hkN, c, hi, hl, hk⟩)⟩
      · have kp : ∀ o, Keep (fun i => ¬ (Y i ∨ i = w.heap.size ∨ i = w.heap.size + 1)) W2 (W2.putObj (w.heap.size + 1) o) := fun o => (Keep.refl _ _).putObj (fun h => h (.inr (.inr rfl))) o
        exact ⟨none, _, by have := run_endLoop (P := P) hl (by rw [hrec]; simp); rw [hrec] at this; exact this, hdone _ (hI _ _ _ hi (kp _)) ((World.putObj_heap_other (by omega)).trans hk)⟩
      · have kp : ∀ o, Keep (fun i => ¬ (Y i ∨ i = w.heap.size ∨ i = w.heap.size + 1)) W2 (W2.putObj (w.heap.size + 1) o) := fun o => (Keep.refl _ _).putObj (fun h => h (.inr (.inr rfl))) o
        exact ⟨some c, _, by have := run_endLoop (P := P) hl (by rw [hrec]; simp); rw [hrec] at this; exact this, hstop _ k _ hkN (hIx _ _ _ _ hi (kp _)) ((World.putObj_heap_other (by omega)).trans hk)⟩
end Go.Proofs.RA
end

/- How a row's slices come to the readings that the walks ask. -/
section
namespace Go.Proofs.YtfhodbnhaaiceaaDoor
open Go.ChangeShapes Go.WideShapes Go.ChangeAt Go.RowKit
namespace K

/-- A slice value that reads as a list of numbers of a kind, of whatever length. -/
def IntsW (k : IntKind) (w : World) (v : Value) (l : List Int) : Prop :=
  ∃ p cap, v = .slice p l.length cap ∧ (l.length ≤ cap ∧ (p = none → cap = 0)) ∧ cap ≤ maxLen ∧ (∀ n ∈ l, (Lit.int k n).wf = true) ∧ (0 < l.length → ∃ b off, p = some ⟨b, off, none⟩ ∧ ∀ j, j < l.length → w.cell? ⟨b, off + j, none⟩ = some (.int k (l.getD j 0)))
/-- The same of bools. -/
def BoolsW (w : World) (v : Value) (l : List Bool) : Prop :=
  ∃ p cap, v = .slice p l.length cap ∧ l.length ≤ cap ∧ cap ≤ maxLen ∧ (0 < l.length → ∃ b off, p = some ⟨b, off, none⟩ ∧ ∀ j, j < l.length → w.cell? ⟨b, off + j, none⟩ = some (.bool (l.getD j false)))

theorem IntsW.ints {w : World} {v : Value} {l : List Int} (h : IntsW .i64 w v l) (hm : l.length * 8 ≤ 140737488351232) : Ints w v l := by
  obtain ⟨p, cap, hv, h1, _, _, h2⟩ := h
  exact ⟨p, cap, hv, h1.1, hm, h2⟩
theorem BoolsW.bools {w : World} {v : Value} {l : List Bool} (h : BoolsW w v l) (hm : l.length ≤ 140737488351232) : Bools w v l := by
  obtain ⟨p, cap, hv, h1, _, h2⟩ := h
  exact ⟨p, cap, hv, h1, hm, h2⟩

section
variable {H : Type} {enc : TypeId × Value → H} {P : Program} {w : World} {base : Nat} {held : Bool}

theorem cells_plain {a : Addr} (h : w.cell? (a.add 0) ≠ none) : a.spot = none := by
  cases hc : w.cell? (a.add 0) with
  | none => exact absurd hc h
  | some u => simpa [Addr.add] using World.cell?_spot hc

theorem row_ints {t e : TypeId} {k : IntKind} {fuel : Nat} {v : Value} {x : DataW H × List MemPlace} (ht : P.underlying t = some (.slice e)) (he : P.underlying e = some (.int k)) (hc : P.cellsOf e = 1)
    (p : Option Addr) (n cap : Nat) (hv : v = .slice p n cap) (h : DataW.trod enc P w base (fun _ => true) held fuel t v.cells.toList = some x) : ∃ l, IntsW k w v l := by
  subst hv
  rcases open_ints ht he hc h with ⟨hcs, _⟩ | ⟨a, l, c, zs, hcs, _, hl, hm, hz, _, hcell, hwz⟩
  · simp [Value.cells] at hcs
    obtain ⟨rfl, rfl, rfl⟩ := hcs
    exact ⟨[], none, 0, rfl, ⟨Nat.le_refl _, fun _ => rfl⟩, Nat.zero_le _, by simp, fun h => by simp at h⟩
  · simp [Value.cells] at hcs
    obtain ⟨rfl, rfl, rfl⟩ := hcs
    simp only [if_true] at hz
    have hlen : (zs.take n).length = n := by simp; omega
    refine ⟨zs.take n, some a, cap, by rw [hlen], ⟨by omega, fun h => by cases h⟩, hm, fun x hx => hwz x (List.mem_of_mem_take hx), fun h0 => ?_⟩
    have hsp : a.spot = none := cells_plain (w := w) (by rw [hcell 0 (by omega)]; simp)
    obtain ⟨b, off, spot⟩ := a
    simp only at hsp
    subst hsp
    refine ⟨b, off, rfl, fun j hj => ?_⟩
    have h2 := hcell j (by omega)
    have h3 : (⟨b, off, none⟩ : Addr).add j = ⟨b, off + j, none⟩ := by simp [Addr.add]
    rw [h3] at h2
    rw [h2]
    have hj' : j < n := by omega
    simp [List.getD, hj']

theorem row_bools {t e : TypeId} {fuel : Nat} {v : Value} {x : DataW H × List MemPlace} (ht : P.underlying t = some (.slice e)) (he : P.underlying e = some .bool) (hc : P.cellsOf e = 1)
    (p : Option Addr) (n cap : Nat) (hv : v = .slice p n cap) (h : DataW.trod enc P w base (fun _ => true) held fuel t v.cells.toList = some x) : ∃ l, BoolsW w v l := by
  subst hv
  rcases Go.Deep.open_bools ht he hc h with ⟨hcs, _⟩ | ⟨a, l, c, B, hcs, _, hl, hm, _, hcell⟩
  · simp [Value.cells] at hcs
    obtain ⟨rfl, rfl, rfl⟩ := hcs
    exact ⟨[], none, 0, rfl, Nat.le_refl _, Nat.zero_le _, fun h => by simp at h⟩
  · simp [Value.cells] at hcs
    obtain ⟨rfl, rfl, rfl⟩ := hcs
    have hlen : ((List.range n).map B).length = n := by simp
    refine ⟨(List.range n).map B, some a, cap, by rw [hlen], by omega, hm, fun h0 => ?_⟩
    have hsp : a.spot = none := cells_plain (w := w) (by rw [hcell 0 (by omega)]; simp)
    obtain ⟨b, off, spot⟩ := a
    simp only at hsp
    subst hsp
    refine ⟨b, off, rfl, fun j hj => ?_⟩
    have h2 := hcell j (by omega)
    have h3 : (⟨b, off, none⟩ : Addr).add j = ⟨b, off + j, none⟩ := by simp [Addr.add]
    rw [h3] at h2
    rw [h2]
    have hj' : j < n := by omega
    simp [List.getD, hj']
end
end K
end Go.Proofs.YtfhodbnhaaiceaaDoor
end
