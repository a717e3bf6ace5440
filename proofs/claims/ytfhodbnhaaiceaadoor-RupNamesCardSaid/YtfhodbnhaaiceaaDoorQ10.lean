/- Several texts, joined. -/
import Derived.Test.YtfhodbnhaaiceaaDoorQ01
import Derived.Test.YtfhodbnhaaiceaaDoorQ03

/- A range over a function whose rounds may panic, in a function that is known by its number. My own, over the kit's laws of the statement. -/
section
namespace Go.Proofs.RA
open Go.RowKit
variable {P : Program}

/-- Code walked in frames of the one function f0. -/
def WpAt (P : Program) (f0 : Nat) (c : Code) (Q : Exit → Act → World → Prop) (a : Act) (w : World) : Prop :=
  ∀ (b : Frame) (k : List Item) (cs : List Frame), b.roundOf = none → b.fn = f0 →
    ∃ e a' w', Q e a' w' ∧ ArrivesIn (Machine.fenced P Fence.wide) P (lone (b.atR a (.code c :: k)) cs w) b k cs e a' w'

theorem wpAt_of {f0 : Nat} {c : Code} {Q : Exit → Act → World → Prop} {a : Act} {w : World} (h : c.wpIn Fence.wide 0 P Q a w) : WpAt P f0 c Q a w :=
  fun b k cs hr _ => h b k cs hr trivial (room_wide _)
theorem wpAt_of_wp {f0 : Nat} {c : Code} {Q : Exit → Act → World → Prop} {a : Act} {w : World} (h : c.wp P Q a w) : WpAt P f0 c Q a w := wpAt_of (wpIn_wide.2 h)

theorem wpAt_seq {f0 : Nat} {x y : Code} {Q : Exit → Act → World → Prop} {a : Act} {w : World} (h : WpAt P f0 x (fun e a' w' => match e with | .normal => WpAt P f0 y Q a' w' | e => Q e a' w') a w) : WpAt P f0 (.seq x y) Q a w := by
  intro b k cs hr hb
  obtain ⟨e, a1, w1, hq, har⟩ := h b (.code y :: k) cs hr hb
  have h1 : StepsIn (Machine.fenced P Fence.wide) P (lone (b.atR a (.code (.seq x y) :: k)) cs w) (lone (b.atR a (.code x :: .code y :: k)) cs w) := .one (fenced_wide P _) stepR_seq
  by_cases he : e = .normal
  · subst he
    obtain ⟨e2, a2, w2, hq2, har2⟩ := hq b k cs hr hb
    exact ⟨e2, a2, w2, hq2, .of_steps (h1.trans har) har2⟩
  · have hq' : Q e a1 w1 := by cases e <;> first | exact absurd rfl he | exact hq
    exact ⟨e, a1, w1, hq', .of_steps h1 (.pass (x := .code y) rfl (fun _ _ => .inl he) har)⟩

theorem wpAt_block {f0 id : Nat} {c : Code} {Q : Exit → Act → World → Prop} {a : Act} {w : World}
    (h : WpAt P f0 c (fun e a' w' => match e with | .normal => Q .normal a' w' | .ret => Q .ret a' w' | .panic ch => Q (.panic ch) a' w' | _ => False) a w) : WpAt P f0 (.block id c) Q a w := by
  intro b k cs hr hb
  obtain ⟨e, a1, w1, hq, har⟩ := h b (.inBlock id :: k) cs hr hb
  have h1 : StepsIn (Machine.fenced P Fence.wide) P (lone (b.atR a (.code (.block id c) :: k)) cs w) (lone (b.atR a (.code c :: .inBlock id :: k)) cs w) := .one (fenced_wide P _) stepR_block
  cases e with
  | normal => exact ⟨.normal, a1, w1, hq, (h1.trans har).trans (.one (fenced_wide P _) stepR_inBlock)⟩
  | ret => exact ⟨.ret, a1, w1, hq, .of_steps h1 har⟩
  | panic ch => exact ⟨.panic ch, a1, w1, hq, .of_steps h1 har⟩
  | exit i => exact hq.elim
  | goto l => exact hq.elim
  | outgrown => exact hq.elim

/-- A function's contract from its body so walked. -/
theorem calls_of_wpAt {f : Nat} {fn : Func} {c : Code} {args : Array Value} {w : World} {R : Ending → World → Prop} (hf : P.funcs[f]? = some fn) (hb : fn.body = some c)
    (h : WpAt P f c (fun e a' w' => match e with
      | .normal => LeavesInM Fence.wide 0 P fn a'.tmps R a'.defers .returning w'
      | .ret => LeavesInM Fence.wide 0 P fn a'.tmps R a'.defers .returning w'
      | .panic ch => LeavesInM Fence.wide 0 P fn a'.tmps R a'.defers (.panicking ch) w'
      | _ => False) { tmps := args ++ Array.replicate (fn.ntmps - args.size) undef, defers := [] } w) : Calls P f args w R := by
  refine (callsIn_wide (n := 0)).1 ⟨trivial, fun cs hr => ?_⟩
  obtain ⟨b, hbd⟩ : ∃ b : Frame, b = { (default : Frame) with fn := f, kind := .normal, roundOf := none } := ⟨_, rfl⟩
  have hen : Frame.enter P f args .normal = b.atR { tmps := args ++ Array.replicate (fn.ntmps - args.size) undef, defers := [] } [.code c] := by
    rw [hbd]; simp [Frame.enter, Frame.atR, hf, hb]
  have hbf : b.fn = f := by rw [hbd]
  have hbk : b.kind = .normal := by rw [hbd]
  have hbr : b.roundOf = none := by rw [hbd]
  obtain ⟨e, a1, w1, hq, har⟩ := h b [] cs hbr hbf
  rw [← hen] at har
  have out : ∀ (u : FrameMode) (todo : List Item), StepsIn (Machine.fenced P Fence.wide) P (lone (Frame.enter P f args .normal) cs w) (lone { b.atR a1 todo with mode := u } cs w1) → LeavesInM Fence.wide 0 P fn a1.tmps R a1.defers u w1 →
      ∃ e w' fr', R e w' ∧ ComesIn (Machine.fenced P Fence.wide) P (lone (Frame.enter P f args .normal) cs w) (lone fr' cs w') e ∧ fr'.fn = f ∧ fr'.leaving P w' e := by
    intro u todo hs hl
    obtain ⟨e', w2, fr', hR, hs2, hfn, hl2⟩ := leaves_stepsInM a1.defers u w1 { b.atR a1 todo with mode := u } cs rfl rfl rfl (by show P.funcs[b.fn]? = _; rw [hbf]; exact hf) hbk trivial (room_wide _) hl
    exact ⟨e', w2, fr', hR, ComesIn.of_steps hs hs2, hfn.trans hbf, hl2⟩
  cases e with
  | normal => exact out .returning [] (StepsIn.trans har (.one (fenced_wide P _) (stepR_end hbr))) hq
  | ret =>
    obtain ⟨todo, hs⟩ := har.1 hbr
    exact out .returning todo hs hq
  | panic ch =>
    obtain ⟨todo, hs⟩ := har
    exact out (.panicking ch) todo hs hq
  | exit i => exact hq.elim
  | goto l => exact hq.elim
  | outgrown => exact hq.elim

/-- What is asked at a round's end, a panic taken in. -/
def roundEnd (P : Program) (l : Nat) (R : Ending → World → Prop) : Exit → Act → World → Prop
  | .normal, _, w => ∃ v w', (Instr.endRound l none).run P w = .ok v w' ∧ R (.returned v) w'
  | .panic ch, a, w => a.defers = [] ∧ R (.panicked ch) w
  | _, _, _ => False

theorem roundIn_of {l : Nat} {f : FuncId} {fn : Func} {tmps : Array Value} {assign body : Code} {w : World} {R : Ending → World → Prop} (hf : P.funcs[f]? = some fn)
    (h : assign.wpIn (Fence.wide.inRound l) 0 P (Exit.then (fun a1 w1 => ∃ w2, (Instr.beginRound l).run P w1 = .ok () w2 ∧ body.wpIn (Fence.wide.inRound l) 0 P (roundEnd P l R) a1 w2) (fun _ _ _ => False)) { tmps := tmps, defers := [] } w) :
    RoundIn Fence.wide 0 P l f tmps assign body w R := by
  refine ⟨trivial, fun c cs hr => ?_⟩
  obtain ⟨b, hbd⟩ : ∃ b : Frame, b = { (default : Frame) with fn := f, kind := .normal, roundOf := some l } := ⟨_, rfl⟩
  have h0 : Frame.round l f tmps assign body .normal = b.atR { tmps := tmps, defers := [] } [.code assign, .beginRound, .code body] := by rw [hbd]; simp [Frame.round, Frame.atR]
  have hbr : b.roundOf = some l := by rw [hbd]
  have hbf : b.fn = f := by rw [hbd]
  have hbk : b.kind = .normal := by rw [hbd]
  have wide : ∀ m, Machine.fenced P (Fence.wide.inRound l) m := fun m => fenced_wide P m
  obtain ⟨e, a1, w1, hq, har⟩ := h b [.beginRound, .code body] (c :: cs) hbr trivial hr
  rw [← h0] at har
  cases e with
  | normal =>
    obtain ⟨w2, hbeg, hbody⟩ := hq
    have s1 : StepsIn (Machine.fenced P Fence.wide) P (lone (b.atR a1 [.beginRound, .code body]) (c :: cs) w1) (lone (b.atR a1 [.code body]) (c :: cs) w2) := .one (wide _) (stepR_beginRound hbr hbeg)
    obtain ⟨e2, a2, w3, hq2, har2⟩ := hbody b [] (c :: cs) hbr trivial hr
    have s2 := StepsIn.trans har s1
    cases e2 with
    | normal =>
      obtain ⟨v, w4, hend, hR⟩ := hq2
      exact ⟨.returned v, w4, hR, s2.trans (StepsIn.trans har2 (.one (wide _) (stepR_round_end hbr hbk hend)))⟩
    | panic ch =>
      obtain ⟨hd, hR⟩ := hq2
      obtain ⟨todo, hs⟩ := har2
      exact ⟨.panicked ch, w3, hR, s2.trans (StepsIn.trans hs (.one (wide _) (step_leave_panicked ⟨rfl, hd, fn, by show P.funcs[b.fn]? = _; rw [hbf]; exact hf⟩)))⟩
    | ret => exact hq2.elim
    | exit i => exact hq2.elim
    | goto t => exact hq2.elim
    | outgrown => exact hq2.elim
  | ret => exact hq.elim
  | exit i => exact hq.elim
  | goto t => exact hq.elim
  | panic ch => exact hq.elim
  | outgrown => exact hq.elim

/-- An iterator that calls its round once, or not at all, and ends as the round did. -/
def Once (P : Program) (g : Nat) (lb : Array Value) (one : Bool) (args : Array Value) (w : World) : Prop :=
  ∀ (l : Nat) (J : World → Prop) (Jp : List PanicEntry → World → Prop),
    (∀ A B, A.heap = B.heap → A.os = B.os → A.tape = B.tape → A.output = B.output → J A → J B) →
    (one = false → J w) →
    (one = true → ∀ A, A.heap = w.heap → A.os = w.os → A.tape = w.tape → A.output = w.output → YieldAt Fence.wide 0 P l args A fun e B => (e = .returned (.bool true) ∧ J B ∧ Keep (fun i => i < w.heap.size - 2) w B) ∨ ∃ ch, e = .panicked ch ∧ Jp ch B) →
    CallsIn Fence.wide 0 P g (#[.func (.yield l) #[] #[]] ++ lb) w fun e B => ((∃ v, e = .returned v) ∧ J B) ∨ ∃ ch, e = .panicked ch ∧ Jp ch B

set_option maxHeartbeats 1000000 in
/-- The statement 'for .. := range g { .. }' over such an iterator, in a function that is known. -/
theorem wpAt_once {f0 : Nat} {fn0 : Func} (hf0 : P.funcs[f0]? = some fn0) {g : Operand} {ps : Array Tmp} {assign body : Code} {Q : Exit → Act → World → Prop} {a : Act} {w : World}
    {gf : Nat} {lb : Array Value} (hg : a.eval g = .func (.func gf) #[] lb) (eg : ∀ args w, (callFunc gf args).run P w = .ok (.enter gf args) w) {one : Bool} {args : Array Value}
    (hit : ∀ W, Keep (fun _ => True) w W → W.heap.size = w.heap.size + 2 → Once P gf lb one args W) (hps : args.size = ps.size)
    (I : World → Prop) (Ip : List PanicEntry → World → Prop)
    (hI : ∀ A B, I A → Keep (fun i => i ≠ w.heap.size ∧ i ≠ w.heap.size + 1) A B → I B)
    (h0 : one = false → I w) (a1 : Act)
    (hassign : ∀ (l : Nat) (W : World) (K : Act → World → Prop), K a1 W →
      assign.wpIn (Fence.wide.inRound l) 0 P (Exit.then K (fun _ _ _ => False)) { tmps := (ps.zip args).foldl (fun t (p, v) => t.setIfInBounds p v) a.tmps, defers := [] } W)
    (hbody : ∀ (W : World), one = true → Keep (fun i => i < w.heap.size) w W → w.heap.size + 2 = W.heap.size → body.wpIn (Fence.wide.inRound (w.heap.size + 1)) 0 P (fun e a' W' => match e with
      | .normal => Keep (fun i => i < W.heap.size) W W' ∧ I W'
      | .panic ch => a'.defers = [] ∧ Keep (fun i => i < W.heap.size) W W' ∧ Ip ch W'
      | _ => False) a1 W)
    (hdone : ∀ (W : World), I W → W.heap[w.heap.size]? = some (.deferred (some [])) → Q .normal { a with defers := { target := .collected w.heap.size, args := #[] } :: a.defers } W)
    (hpanic : ∀ (ch : List PanicEntry) (W : World), Ip ch W → W.heap[w.heap.size]? = some (.deferred (some [])) → Q (.panic ch) { a with defers := { target := .collected w.heap.size, args := #[] } :: a.defers } W) :
    WpAt P f0 (Code.rangeFunc g ps assign body) Q a w := by
  intro b k cs hr hb
  obtain ⟨rec, hrec⟩ : ∃ rec : LoopState → Option Code → Loop, rec = fun st pe => { state := st, pending := pe, fn := b.fn, tmps := a.tmps, params := ps, assign, body, defers := w.heap.size } := ⟨_, rfl⟩
  obtain ⟨W1, hW1⟩ : ∃ W1, (w.alloc (.deferred (some []))).alloc (.loop (rec .ready none)) = W1 := ⟨_, rfl⟩
  have hL1 : W1.heap[w.heap.size + 1]? = some (.loop (rec .ready none)) := by
    rw [← hW1]; have := World.alloc_heap_new (w.alloc (.deferred (some []))) (.loop (rec .ready none)); rwa [World.size_alloc] at this
  have hK1 : W1.heap[w.heap.size]? = some (.deferred (some [])) := by
    rw [← hW1]; exact (Below.heap_alloc _ _ _ (by simp)).trans (World.alloc_heap_new w _)
  have hkeep1 : Keep (fun _ => True) w W1 := by rw [← hW1]; exact ((Keep.refl _ _).alloc _).alloc _
  have hsz1 : W1.heap.size = w.heap.size + 2 := by rw [← hW1]; simp
  have hyield : one = true → ∀ A, A.heap = W1.heap → A.os = W1.os → A.tape = W1.tape → A.output = W1.output → YieldAt Fence.wide 0 P (w.heap.size + 1) args A fun e B =>
      (e = .returned (.bool true) ∧ (I B ∧ B.heap[w.heap.size + 1]? = some (.loop (rec .ready none)) ∧ B.heap[w.heap.size]? = some (.deferred (some []))) ∧ Keep (fun i => i < W1.heap.size - 2) W1 B) ∨ ∃ ch, e = .panicked ch ∧ Ip ch B ∧ B.heap[w.heap.size]? = some (.deferred (some [])) := by
    intro ho A e1 e2 e3 e4
    have hl : A.heap[w.heap.size + 1]? = some (.loop (rec .ready none)) := by rw [e1]; exact hL1
    have hd : A.heap[w.heap.size]? = some (.deferred (some [])) := by rw [e1]; exact hK1
    have hAw : Keep (fun _ => True) w A := ⟨e2.trans hkeep1.os, e3.trans hkeep1.tape, e4.trans hkeep1.output, by rw [e1]; exact hkeep1.size, fun i hi _ => by rw [e1]; exact hkeep1.block i hi trivial⟩
    have hsA : A.heap.size = w.heap.size + 2 := by rw [e1, hsz1]
    have hlt : w.heap.size + 1 < A.heap.size := by omega
    have hy := run_yield (P := P) (args := args) hl (by rw [hrec]; exact hps)
    rw [hrec] at hy
    refine ⟨b.fn, _, assign, body, hy, roundIn_of (by rw [hb]; exact hf0) (hassign _ A _ ⟨_, run_beginRound hl (by rw [hrec]), ?_⟩)⟩
    clear hy
    obtain ⟨W2, hW2⟩ : ∃ W2, A.putObj (w.heap.size + 1) (.loop { rec .ready none with state := .busy }) = W2 := ⟨_, rfl⟩
    rw [hW2]
    have hkW : Keep (fun i => i ≠ w.heap.size + 1) A W2 := by rw [← hW2]; exact (Keep.refl _ _).putObj (fun h => h rfl) _
    have hl2 : W2.heap[w.heap.size + 1]? = some (.loop { rec .ready none with state := .busy }) := by rw [← hW2]; exact World.putObj_heap_same hlt
    have hd2 : W2.heap[w.heap.size]? = some (.deferred (some [])) := hkW.heap hd (by omega)
    have hs2 : W2.heap.size = A.heap.size := by rw [← hW2]; simp
    refine wpIn_mono (hbody W2 ho ((hAw.mono fun _ _ _ => trivial).trans (hkW.mono fun i hi h => by omega)) (by omega)) ?_
    rintro e a3 W3 hp
    cases e with
    | normal =>
      obtain ⟨hk3, hi3⟩ := hp
      have hl3 := hk3.heap hl2 (by show w.heap.size + 1 < _; omega)
      have hd3 := hk3.heap hd2 (by show w.heap.size < _; omega)
      have := run_endRound (P := P) none hl3
      rw [hrec] at this
      refine ⟨_, _, this, .inl ⟨rfl, ⟨hI _ _ hi3 ((Keep.refl _ _).putObj (fun h => h.2 rfl) _), ?_, (World.putObj_heap_other (by omega)).trans hd3⟩, ?_⟩⟩
      · rw [hrec]; exact World.putObj_heap_same (Array.getElem?_eq_some_iff.1 hl3).1
      · have h1 : Keep (fun i => i < w.heap.size) W1 A := ⟨e2, e3, e4, by rw [e1]; exact Nat.le_refl _, fun i hi _ => by rw [e1]⟩
        exact (((h1.mono fun i _ h => by omega).trans (hkW.mono fun i _ h => by omega)).trans (hk3.mono fun i _ h => by omega)).trans ((Keep.refl _ _).putObj (by omega) _)
    | panic ch =>
      obtain ⟨h1, hk3, hi3⟩ := hp
      exact ⟨h1, .inr ⟨ch, rfl, hi3, hk3.heap hd2 (by show w.heap.size < _; omega)⟩⟩
    | ret => exact hp.elim
    | exit id => exact hp.elim
    | goto t => exact hp.elim
    | outgrown => exact hp.elim
  have hcall := hit W1 hkeep1 hsz1 (w.heap.size + 1) (fun B => I B ∧ B.heap[w.heap.size + 1]? = some (.loop (rec .ready none)) ∧ B.heap[w.heap.size]? = some (.deferred (some [])))
    (fun ch B => Ip ch B ∧ B.heap[w.heap.size]? = some (.deferred (some [])))
    (fun A B h1 h2 h3 h4 hs => ⟨hI _ _ hs.1 ⟨h2.symm, h3.symm, h4.symm, by rw [h1]; exact Nat.le_refl _, fun i _ _ => by rw [h1]⟩, by rw [← h1]; exact hs.2.1, by rw [← h1]; exact hs.2.2⟩)
    (fun ho => ⟨hI _ _ (h0 ho) (hkeep1.mono fun _ _ _ => trivial), hL1, hK1⟩) hyield
  have hen : (Instr.enterLoop b.fn a.tmps ps assign body b.roundOf).run P w = .ok (w.heap.size + 1, [{ target := .collected w.heap.size, args := #[] }]) W1 := by
    rw [hr, ← hW1, hrec]; exact run_enterLoop_outer _ _ _ _ _
  have hres : (resolve a.eval (rangeCall g (w.heap.size + 1)) 0).run P W1 = .ok { target := .fn (.func gf) lb, args := #[.func (.yield (w.heap.size + 1)) #[] #[]] } W1 := by
    simp only [resolve, hg]
    simp [go_sem]
  have hinv : (invoke (.fn (.func gf) lb) #[.func (.yield (w.heap.size + 1)) #[] #[]]).run P W1 = .ok (.enter gf (#[.func (.yield (w.heap.size + 1)) #[] #[]] ++ lb)) W1 := by
    simp [invoke, go_sem, eg]
  have hst := stepR_rangeFunc (P := P) (b := b) (a := a) (k := k) (cs := cs) (w := w) hen hres hinv
  have go1 : StepsIn (Machine.fenced P Fence.wide) P _ _ := .one (fenced_wide P _) hst
  obtain ⟨e, w3, fr, hR, hsteps, hfn, hleave⟩ := hcall.2 (b.atR { a with defers := [{ target := .collected w.heap.size, args := #[] }] ++ a.defers } (.inRangeFunc (w.heap.size + 1) :: k) :: cs) (room_wide _)
  rcases hR with ⟨⟨v, rfl⟩, hi, hl, hd⟩ | ⟨ch, rfl, hi, hd⟩
  · have hend := run_endLoop (P := P) hl (by rw [hrec]; simp)
    have hback := step_leave_returned (c := (b.atR { a with defers := [{ target := .collected w.heap.size, args := #[] }] ++ a.defers } (.inRangeFunc (w.heap.size + 1) :: k))) (cs := cs) hleave
    rw [finish_atR_inRangeFunc] at hback
    have kp : ∀ o, Keep (fun i => i ≠ w.heap.size ∧ i ≠ w.heap.size + 1) w3 (w3.putObj (w.heap.size + 1) o) := fun o => (Keep.refl _ _).putObj (fun h => h.2 rfl) o
    have h3 := stepR_endRangeFunc (P := P) (b := b) (a := { a with defers := [{ target := .collected w.heap.size, args := #[] }] ++ a.defers }) (k := k) (cs := cs) hend
    rw [hrec] at h3
    refine ⟨.normal, _, _, ?_, (go1.trans (hsteps.trans (.one (fenced_wide P _) hback))).trans (.one (fenced_wide P _) h3)⟩
    exact hdone _ (hI _ _ hi (kp _)) ((World.putObj_heap_other (by omega)).trans hd)
  · have hback := step_leave_panicked (c := (b.atR { a with defers := [{ target := .collected w.heap.size, args := #[] }] ++ a.defers } (.inRangeFunc (w.heap.size + 1) :: k))) (cs := cs) hleave
    rw [Frame.raise_atR] at hback
    exact ⟨.panic ch, _, w3, hpanic ch w3 hi hd, _, go1.trans (hsteps.trans (.one (fenced_wide P _) hback))⟩
end Go.Proofs.RA
end

/- The closure of slices.Chunk at [][]int, with chunks that hold all. -/
section
namespace Go.Proofs.YtfhodbnhaaiceaaDoor
open Go.RowKit RA
namespace L
open K
attribute [local go_sem] Oper.semAt_some
set_option maxRecDepth 100000

set_option maxHeartbeats 4000000 in
theorem chunk_once (p : Option Addr) (N cap : Nat) (B1 B2 : Nat) (w : World) (hp : 0 < N → ∃ b off, p = some ⟨b, off, none⟩) (hN : N ≤ 1000000) (hc : N ≤ cap) (h1 : Box w B1 24 #[.slice p N cap]) (h2 : Box w B2 3 #[.int .i64 1048576]) (hs1 : B1 + 2 < w.heap.size) (hs2 : B2 + 2 < w.heap.size) :
    Once Tryd.prog 62 #[.pointer (some ⟨B1, 0, none⟩), .pointer (some ⟨B2, 0, none⟩)] (decide (0 < N)) #[.slice p N N] w := by
  intro l J Jp hJ hJ0 hY
  have c1 := h1.cell 0
  have c2 := h2.cell 0
  simp only [List.getElem?_toArray, List.getElem?_cons_zero] at c1 c2
  have H1 := Lib.hid h1
  have H2 := Lib.hid h2
  have HJ := Lib.hid hJ
  have HJ0 := Lib.hid hJ0
  have HY := Lib.hid hY
  have HP := Lib.hid hp
  clear hJ hJ0 hY h1 h2 hp
  refine callsIn_of_wp Tryd.func62 rfl trivial ?_ rfl
  simp only [Tryd.ntmps62, List.size_toArray, List.length_cons, List.length_nil, Nat.reduceAdd, Nat.reduceSub, Array.replicate_succ, Array.replicate_zero, List.push_toArray, List.append_toArray, List.nil_append, List.cons_append]
  by_cases h0 : 0 < N
  · obtain ⟨b, off, rfl⟩ := HP.out h0
    have hY2 := HY.out (by simpa using h0)
    have HY2 := Lib.hid hY2
    have hlt : ¬ ((1048576 : Int) < (N : Int)) := by omega
    clear hY2
    gi_wp2
    gi_loopw [4, 5] (fun i _ wr => (i = .int .i64 0 ∧ wr = w) ∨ (i = .int .i64 1048576 ∧ J wr ∧ Keep (fun i => i < w.heap.size - 2) w wr)) (fun i _ _ => 1048576 - (intOf i).toNat)
    case atStart => exact .inl ⟨rfl, rfl⟩
    case round =>
      rcases hrel with ⟨rfl, rfl⟩ | ⟨rfl, hj, hk⟩
      · have hpos : (0 : Int) < (N : Int) := by omega
        obtain ⟨fn, tmps, assign, body, hy, hR⟩ := HY2.out wr.drew rfl rfl rfl rfl
        gi_wp2
        gi_region
        gi_wp2
        refine ⟨(by simp [Fence.wide]), hR.mono ?_⟩
        rintro e W3 (⟨rfl, hJ3, hk3⟩ | ⟨ch, rfl, hp3⟩)
        · have cc1 := hk3.cell c1 (by show B1 < _; omega)
          have cc2 := hk3.cell c2 (by show B2 < _; omega)
          have HJ3 := Lib.hid hJ3
          have HK3 := Lib.hid hk3
          clear hR hJ3 hk3 hy
          gi_wp2
          go_roundw
          case rel => exact .inr ⟨rfl, HJ3.out, HK3.out⟩
          case measure => simp [intOf]
        · have HP3 := Lib.hid hp3
          clear hR hp3 hy
          gi_wp2
          exact ⟨rfl, .inr ⟨ch, rfl, HP3.out⟩⟩
      · have c1' := hk.cell c1 (by show B1 < _; omega)
        have HJ3 := Lib.hid hj
        clear hj hk
        gi_wp2
        go_end0
        exact .inl ⟨⟨_, rfl⟩, HJ3.out⟩
  · obtain rfl : N = 0 := by omega
    have hj := HJ0.out (by simp)
    have HJ3 := Lib.hid hj
    clear hj HY HJ0
    gi_wp2
    gi_loopw [4, 5] (fun i _ wr => i = .int .i64 0 ∧ wr = w) (fun i _ _ => 0)
    case atStart => exact ⟨rfl, rfl⟩
    case round =>
      obtain ⟨rfl, rfl⟩ := hrel
      gi_wp2
      go_end0
      exact .inl ⟨⟨_, rfl⟩, HJ3.out⟩
end L
end Go.Proofs.YtfhodbnhaaiceaaDoor
end
