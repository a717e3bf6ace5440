/- Several texts, joined. -/
import Derived.Test.YtfhodbnhaaiceaaDoorQ05

/- The state of a propagation with watched literals, plain: what its parts do, and what stays true. -/
section
namespace Go.Proofs.YtfhodbnhaaiceaaDoor
namespace U

def upd {α β : Type} [DecidableEq α] (f : α → β) (k : α) (v : β) : α → β := fun j => if j = k then v else f j
section
variable {α β : Type} [DecidableEq α] {f : α → β} {k j : α} {v : β}
theorem upd_same : upd f k v k = v := by simp [upd]
theorem upd_ne (h : j ≠ k) : upd f k v j = f j := by simp [upd, h]
end

structure St where
  kn : Nat → Int
  q : List Int
  nx : Nat → Nat
  b0 : Nat → Int
  b1 : Nat → Int
  W : Int → List Nat

/-- How many variables are not known. -/
def unk (kn : Nat → Int) : Nat → Nat
  | 0 => 0
  | n + 1 => unk kn n + if kn (n + 1) = 0 then 1 else 0
theorem unk_upd_out {kn : Nat → Int} {v : Nat} {x : Int} : ∀ n, n < v → unk (upd kn v x) n = unk kn n
  | 0, _ => rfl
  | n + 1, h => by simp only [unk]; rw [unk_upd_out n (by omega), upd_ne (by omega)]
theorem unk_upd {kn : Nat → Int} {v : Nat} {x : Int} (h0 : kn v = 0) (hx : x ≠ 0) (h1 : 1 ≤ v) : ∀ n, v ≤ n → unk (upd kn v x) n + 1 = unk kn n
  | 0, h => by omega
  | n + 1, h => by
    simp only [unk]
    by_cases e : v = n + 1
    · subst e
      rw [unk_upd_out n (by omega), upd_same]
      simp [hx, h0]
    · rw [upd_ne (by omega), ← unk_upd h0 hx h1 n (by omega)]
      omega
theorem unk_zero : ∀ n, unk (fun _ => 0) n = n
  | 0 => rfl
  | n + 1 => by simp [unk, unk_zero n]
theorem unk_le (kn : Nat → Int) : ∀ n, unk kn n ≤ n
  | 0 => Nat.le_refl _
  | n + 1 => by simp only [unk]; have := unk_le kn n; split <;> omega

def learnS (s : St) (x : Int) : St := { s with kn := upd s.kn x.natAbs x, q := s.q ++ [x] }
def learn (s : St) (x : Int) : Bool × St := if s.kn x.natAbs = -x then (false, s) else if s.kn x.natAbs = x then (true, s) else (true, learnS s x)
theorem learn_no {s : St} {x : Int} (h : s.kn x.natAbs = -x) : learn s x = (false, s) := by unfold learn; exact if_pos h
theorem learn_yes {s : St} {x : Int} (hx : x ≠ 0) (h : s.kn x.natAbs = x) : learn s x = (true, s) := by
  unfold learn
  rw [if_neg (by omega), if_pos h]
theorem learn_new {s : St} {x : Int} (h1 : s.kn x.natAbs ≠ -x) (h2 : s.kn x.natAbs ≠ x) : learn s x = (true, learnS s x) := by
  unfold learn
  rw [if_neg h1, if_neg h2]

def seekL (kn : Nat → Int) (o : Int) : List Int → Int × Nat
  | [] => (0, 0)
  | x :: r => if x ≠ o ∧ kn x.natAbs ≠ -x then (x, 1) else ((seekL kn o r).1, (seekL kn o r).2 + 1)

theorem seekL_spec (kn : Nat → Int) (o : Int) (l : List Int) (hz : ∀ x ∈ l, x ≠ 0) :
    ((seekL kn o l).1 = 0 ∧ (seekL kn o l).2 = l.length ∧ ∀ j, j < l.length → l.getD j 0 = o ∨ kn (l.getD j 0).natAbs = -(l.getD j 0)) ∨
    ((seekL kn o l).1 ∈ l ∧ (seekL kn o l).1 ≠ 0 ∧ (seekL kn o l).1 ≠ o ∧ kn (seekL kn o l).1.natAbs ≠ -(seekL kn o l).1 ∧ 0 < (seekL kn o l).2 ∧ (seekL kn o l).2 ≤ l.length ∧
      ∀ j, j < (seekL kn o l).2 → l.getD j 0 = o ∨ l.getD j 0 = (seekL kn o l).1 ∨ kn (l.getD j 0).natAbs = -(l.getD j 0)) := by
  induction l with
  | nil => left; exact ⟨rfl, rfl, fun j hj => by simp at hj⟩
  | cons x r ih =>
    by_cases h : x ≠ o ∧ kn x.natAbs ≠ -x
    · right
      have e1 : seekL kn o (x :: r) = (x, 1) := by simp only [seekL]; exact if_pos h
      rw [e1]
      refine ⟨by simp, hz x (by simp), h.1, h.2, by omega, by simp, fun j hj => ?_⟩
      obtain rfl : j = 0 := by omega
      simp
    · have hx : x = o ∨ kn x.natAbs = -x := by
        by_cases e : x = o
        · exact .inl e
        · exact .inr (Classical.byContradiction fun h2 => h ⟨e, h2⟩)
      have e1 : seekL kn o (x :: r) = ((seekL kn o r).1, (seekL kn o r).2 + 1) := by simp only [seekL, h, if_false]
      rw [e1]
      rcases ih (fun y hy => hz y (by simp [hy])) with ⟨h1, h2, h3⟩ | ⟨h1, h2, h3, h4, h5, h6, h7⟩
      · left
        refine ⟨h1, by simp [h2], fun j hj => ?_⟩
        cases j with
        | zero => simpa using hx
        | succ j => simpa using h3 j (by simpa using hj)
      · right
        refine ⟨by simp [h1], h2, h3, h4, by simp, by simpa using h6, fun j hj => ?_⟩
        cases j with
        | zero => rcases hx with h | h
                  · exact .inl (by simpa using h)
                  · exact .inr (.inr (by simpa using h))
        | succ j => simpa using h7 j (by simpa using hj)

/-- The next literal of a clause. -/
def seekR (s : St) (i : Nat) (c : List Int) (o : Int) : Int := (seekL s.kn o (c.drop (s.nx i))).1
def seekS (s : St) (i : Nat) (c : List Int) (o : Int) : St := { s with nx := upd s.nx i (s.nx i + (seekL s.kn o (c.drop (s.nx i))).2) }

def push (s : St) (i : Nat) (z : Int) : St := { s with W := upd s.W z (s.W z ++ [i]) }

def watch (s : St) (i : Nat) (c : List Int) : Bool × St :=
  let a := seekR s i c 0
  let s1 := seekS s i c 0
  if a = 0 then (false, s1) else
  let b := seekR s1 i c a
  let s2 := seekS s1 i c a
  if b = 0 then learn s2 a else
  (true, push (push { s2 with b0 := upd s2.b0 i a, b1 := upd s2.b1 i b } i a) i b)

def turned (s : St) (i : Nat) (x : Int) : St := if s.b0 i = x then { s with b0 := upd s.b0 i (s.b1 i), b1 := upd s.b1 i x } else s
def leave (s : St) (i : Nat) (c : List Int) (x : Int) : Bool × St :=
  let s1 := turned s i x
  let o := s1.b0 i
  if s1.kn o.natAbs = o then (true, s1) else
  let y := seekR s1 i c o
  let s2 := seekS s1 i c o
  if y = 0 then learn s2 o else
  (true, push { s2 with b1 := upd s2.b1 i y } i y)

/-! ### what stays true -/
def Sat (s : St) (c : List Int) : Prop := ∃ t ∈ c, t ≠ 0 ∧ s.kn t.natAbs = t
def Pend (s : St) (x : Int) (rest : List Nat) (z : Int) (i : Nat) : Prop := -z ∈ s.q ∨ (z = x ∧ i ∈ rest)
def Ok (s : St) (x : Int) (rest : List Nat) (c : List Int) (z : Int) (i : Nat) : Prop := s.kn z.natAbs = -z → Pend s x rest z i ∨ Sat s c
def Str (s : St) (c : List Int) (i : Nat) : Prop := s.b0 i ∈ c ∧ s.b1 i ∈ c ∧ s.b0 i ≠ s.b1 i ∧ s.nx i ≤ c.length ∧ ∀ j, j < s.nx i → c.getD j 0 = s.b0 i ∨ c.getD j 0 = s.b1 i ∨ s.kn (c.getD j 0).natAbs = -(c.getD j 0)

/-- All literals are those of a formula of n variables. -/
def Val (n : Nat) (l : List Int) : Prop := ∀ x ∈ l, x ≠ 0 ∧ x.natAbs ≤ n

structure Inv (n : Nat) (cs : List (List Int)) (A : List Int) (m : Nat) (x : Int) (rest : List Nat) (s : St) : Prop where
  dom : ∀ v, s.kn v = 0 ∨ ((s.kn v).natAbs = v ∧ 1 ≤ v ∧ v ≤ n)
  snd : ∀ y, y ≠ 0 → s.kn y.natAbs = y → Der cs A y
  que : ∀ y ∈ s.q, y ≠ 0 ∧ s.kn y.natAbs = y
  nod : s.q.Nodup
  cnt : s.q.length + unk s.kn n ≤ n
  mle : m ≤ cs.length
  live : ∀ i, i < m → Sat s (cs.getD i []) ∨ (i ∈ s.W (s.b0 i) ∧ i ∈ s.W (s.b1 i) ∧ Str s (cs.getD i []) i ∧ Ok s x rest (cs.getD i []) (s.b0 i) i ∧ Ok s x rest (cs.getD i []) (s.b1 i) i)
  occ : ∀ z i, i ∈ s.W z → i < m ∧ Str s (cs.getD i []) i ∧ (z = s.b0 i ∨ z = s.b1 i ∨ (s.kn z.natAbs = -z ∧ ¬ Pend s x rest z i))
  wnd : ∀ z, (s.W z).Nodup
  new : ∀ i, m ≤ i → s.nx i = 0

def mea (n : Nat) (s : St) : Nat := 2 * unk s.kn n + s.q.length
def Mono (s s' : St) : Prop := ∀ y, y ≠ 0 → s.kn y.natAbs = y → s'.kn y.natAbs = y
theorem Mono.refl (s : St) : Mono s s := fun _ _ h => h
theorem Mono.trans {s s' s'' : St} (h : Mono s s') (h' : Mono s' s'') : Mono s s'' := fun y hy e => h' y hy (h y hy e)

def start0 : St := ⟨fun _ => 0, [], fun _ => 0, fun _ => 0, fun _ => 0, fun _ => []⟩
theorem Inv.start (n : Nat) (cs : List (List Int)) (A : List Int) : Inv n cs A 0 0 [] start0 := by
  refine ⟨fun v => .inl rfl, fun y hy h => absurd h.symm hy, fun y hy => by simp [start0] at hy, by simp [start0], by simp [start0, unk_zero], Nat.zero_le _, fun i hi => absurd hi (Nat.not_lt_zero _), fun z i hi => by simp [start0] at hi, fun z => by simp [start0], fun i _ => rfl⟩

section
variable {n : Nat} {cs : List (List Int)} {A : List Int} {m : Nat} {x : Int} {rest : List Nat} {s : St}

theorem Inv.any (h : Inv n cs A m x [] s) (y : Int) : Inv n cs A m y [] s := by
  have e : ∀ z i, Pend s x [] z i ↔ Pend s y [] z i := fun z i => by simp [Pend]
  refine ⟨h.dom, h.snd, h.que, h.nod, h.cnt, h.mle, fun i hi => (h.live i hi).imp id fun ⟨a, b, c, d, e2⟩ => ⟨a, b, c, fun hf => (d hf).imp (e _ _).1 id, fun hf => (e2 hf).imp (e _ _).1 id⟩, fun z i hi => ?_, h.wnd, h.new⟩
  obtain ⟨a, b, c⟩ := h.occ z i hi
  exact ⟨a, b, c.imp id (Or.imp id fun ⟨d, e2⟩ => ⟨d, fun hp => e2 ((e _ _).2 hp)⟩)⟩

theorem Inv.cons (_h : Inv n cs A m x rest s) {y : Int} (hy : y ≠ 0) (h1 : s.kn y.natAbs = y) : s.kn y.natAbs ≠ -y := by omega

/-- A literal that is not known becomes known. -/
theorem Inv.learn (h : Inv n cs A m x rest s) {o : Int} (ho : o ≠ 0) (hn : o.natAbs ≤ n) (hu : s.kn o.natAbs = 0) (hd : Der cs A o) : Inv n cs A m x rest (learnS s o) := by
  have hkn : ∀ y : Int, y ≠ 0 → s.kn y.natAbs = y → (learnS s o).kn y.natAbs = y := by
    intro y hy e
    simp only [learnS]
    rw [upd_ne]
    · exact e
    · intro e2; rw [e2, hu] at e; exact hy e.symm
  have hF : ∀ z : Int, z ≠ 0 → s.kn z.natAbs = -z → (learnS s o).kn z.natAbs = -z := by
    intro z hz e
    have := hkn (-z) (by omega) (by simpa using e)
    simpa using this
  have hF0 : ∀ z : Int, s.kn z.natAbs = -z → (learnS s o).kn z.natAbs = -z := by
    intro z e
    by_cases hz : z = 0
    · subst hz
      simp only [learnS]
      rw [upd_ne (by simp; omega)]
      exact e
    · exact hF z hz e
  have hFi : ∀ z : Int, (learnS s o).kn z.natAbs = -z → s.kn z.natAbs = -z ∨ z = -o := by
    intro z e
    simp only [learnS] at e
    by_cases e2 : z.natAbs = o.natAbs
    · rw [e2, upd_same] at e; right; omega
    · rw [upd_ne e2] at e; exact .inl e
  have hS : ∀ c, Sat s c → Sat (learnS s o) c := fun c ⟨t, ht, h0, h1⟩ => ⟨t, ht, h0, hkn t h0 h1⟩
  have hStr : ∀ c i, Str s c i → Str (learnS s o) c i := fun c i ⟨a, b, c1, d, e⟩ => ⟨a, b, c1, d, fun j hj => (e j hj).imp id (Or.imp id (hF0 _))⟩
  have hP : ∀ z i, Pend s x rest z i → Pend (learnS s o) x rest z i := fun z i hp => hp.imp (fun h => by simp [learnS, h]) id
  have hOk : ∀ c z i, Ok s x rest c z i → Ok (learnS s o) x rest c z i := by
    intro c z i hok hf
    rcases hFi z hf with e | e
    · exact (hok e).imp (hP z i) (hS c)
    · left; left; simp [learnS, e]
  have hnq : o ∉ s.q := fun hq => by have := (h.que o hq).2; rw [hu] at this; exact ho this.symm
  refine ⟨fun v => ?_, fun y hy e => ?_, fun y hy => ?_, ?_, ?_, h.mle, fun i hi => ?_, fun z i hi => ?_, h.wnd, h.new⟩
  · simp only [learnS]
    by_cases e : v = o.natAbs
    · subst e; rw [upd_same]; right; exact ⟨rfl, by omega, hn⟩
    · rw [upd_ne e]; exact h.dom v
  · simp only [learnS] at e
    by_cases e2 : y.natAbs = o.natAbs
    · rw [e2, upd_same] at e; exact e ▸ hd
    · rw [upd_ne e2] at e; exact h.snd y hy e
  · simp only [learnS, List.mem_append, List.mem_singleton] at hy
    rcases hy with hy | rfl
    · exact ⟨(h.que y hy).1, hkn y (h.que y hy).1 (h.que y hy).2⟩
    · exact ⟨ho, by simp only [learnS]; rw [upd_same]⟩
  · simp only [learnS]
    rw [List.nodup_append]
    exact ⟨h.nod, by simp, fun a ha b hb => by simp at hb; subst hb; exact fun e => hnq (e ▸ ha)⟩
  · have := unk_upd (n := n) hu ho (by omega) hn
    have h2 := h.cnt
    simp only [learnS, List.length_append, List.length_singleton]
    omega
  · rcases h.live i hi with h1 | ⟨a, b, c, d, e⟩
    · exact .inl (hS _ h1)
    · exact .inr ⟨a, b, hStr _ _ c, hOk _ _ _ d, hOk _ _ _ e⟩
  · obtain ⟨a, b, c⟩ := h.occ z i hi
    refine ⟨a, hStr _ _ b, ?_⟩
    rcases c with c | c | ⟨c, d⟩
    · exact .inl c
    · exact .inr (.inl c)
    · refine .inr (.inr ⟨hF0 _ c, ?_⟩)
      rintro (hp | hp)
      · simp only [learnS, List.mem_append, List.mem_singleton] at hp
        rcases hp with hp | hp
        · exact d (.inl hp)
        · have e2 : z.natAbs = o.natAbs := by omega
          rw [e2, hu] at c
          omega
      · exact d (.inr hp)

theorem Inv.room (h : Inv n cs A m x rest s) {o : Int} (ho : o ≠ 0) (hn : o.natAbs ≤ n) (hu : s.kn o.natAbs = 0) : s.q.length < n := by
  have := unk_upd (n := n) hu ho (by omega) hn
  have h2 := h.cnt
  omega
theorem mea_learn {o : Int} (ho : o ≠ 0) (hn : o.natAbs ≤ n) (hu : s.kn o.natAbs = 0) : mea n (learnS s o) + 1 = mea n s := by
  have := unk_upd (n := n) hu ho (by omega) hn
  simp only [mea, learnS, List.length_append, List.length_singleton]
  omega
theorem mono_learn {o : Int} (hu : s.kn o.natAbs = 0) : Mono s (learnS s o) := by
  intro y hy e
  simp only [learnS]
  rw [upd_ne]
  · exact e
  · intro e2; rw [e2, hu] at e; exact hy e.symm

theorem learn_inv (h : Inv n cs A m x rest s) {o : Int} (ho : o ≠ 0) (hn : o.natAbs ≤ n) (hd : Der cs A o) (ht : (U.learn s o).1 = true) :
    Inv n cs A m x rest (U.learn s o).2 ∧ Mono s (U.learn s o).2 ∧ (U.learn s o).2.kn o.natAbs = o ∧ mea n (U.learn s o).2 ≤ mea n s ∧ (U.learn s o).2.W = s.W ∧ ∀ z, z ≠ o → z ∉ s.q → z ∉ (U.learn s o).2.q := by
  by_cases h1 : s.kn o.natAbs = -o
  · rw [learn_no h1] at ht; cases ht
  · by_cases h2 : s.kn o.natAbs = o
    · rw [learn_yes ho h2]
      exact ⟨h, Mono.refl _, h2, Nat.le_refl _, rfl, fun z _ hz => hz⟩
    · have hu : s.kn o.natAbs = 0 := by
        rcases h.dom o.natAbs with h3 | ⟨h3, _⟩
        · exact h3
        · omega
      rw [learn_new h1 h2]
      refine ⟨h.learn ho hn hu hd, mono_learn hu, by simp only [learnS]; rw [upd_same], by have := mea_learn (n := n) (s := s) ho hn hu; show mea n (learnS s o) ≤ _; omega, rfl, fun z hz hzq => ?_⟩
      simp only [learnS, List.mem_append, List.mem_singleton]
      rintro (h4 | h4)
      · exact hzq h4
      · exact hz h4

/-- A literal is taken from the queue. -/
theorem Inv.pop (h : Inv n cs A m x [] s) {o : Int} {r : List Int} (hq : s.q = o :: r) : Inv n cs A m (-o) (s.W (-o)) { s with q := r } := by
  have hnr : o ∉ r := by have := h.nod; rw [hq] at this; exact (List.nodup_cons.1 this).1
  refine ⟨h.dom, h.snd, fun y hy => h.que y (by rw [hq]; simp [show y ∈ r from hy]), by have := h.nod; rw [hq] at this; exact (List.nodup_cons.1 this).2, by have := h.cnt; rw [hq] at this; simp at this ⊢; omega, h.mle, fun i hi => ?_, fun z i hi => ?_, h.wnd, h.new⟩
  · rcases h.live i hi with h1 | ⟨a, b, c, d, e⟩
    · exact .inl h1
    · have hO : ∀ z, i ∈ s.W z → Ok s x [] (cs.getD i []) z i → Ok { s with q := r } (-o) (s.W (-o)) (cs.getD i []) z i := by
        intro z hz hok hf
        rcases hok hf with (h2 | ⟨_, h2⟩) | h2
        · left
          rw [hq] at h2
          rcases List.mem_cons.1 h2 with h3 | h3
          · have e2 : z = -o := by omega
            exact .inr ⟨e2, e2 ▸ hz⟩
          · exact .inl h3
        · simp at h2
        · exact .inr h2
      exact .inr ⟨a, b, c, hO _ a d, hO _ b e⟩
  · obtain ⟨a, b, c⟩ := h.occ z i hi
    refine ⟨a, b, c.imp id (Or.imp id fun ⟨d, e⟩ => ⟨d, ?_⟩)⟩
    rintro (h2 | ⟨h2, _⟩)
    · exact e (.inl (by rw [hq]; exact List.mem_cons_of_mem _ h2))
    · exact e (.inl (by rw [hq, h2]; simp))

/-- When nothing is left to be looked at all is closed. -/
theorem Inv.closed (h : Inv n cs A m x [] s) (hm : m = cs.length) (hq : s.q = []) (ha : ∀ a ∈ A, a ≠ 0 ∧ s.kn a.natAbs = a) : Closed cs A fun y => y ≠ 0 ∧ s.kn y.natAbs = y := by
  refine ⟨ha, fun y ⟨h1, h2⟩ ⟨h3, h4⟩ => ?_, fun c hc => ?_⟩
  · rw [Int.natAbs_neg, h2] at h4; omega
  · obtain ⟨i, hi, rfl⟩ := List.getElem_of_mem hc
    have e : cs.getD i [] = cs[i] := by simp [List.getD, hi]
    rcases h.live i (by omega) with ⟨t, ht, h1⟩ | ⟨_, _, ⟨b0, b1, bne, _, _⟩, o0, o1⟩
    · exact .inl ⟨t, by rw [← e]; exact ht, h1⟩
    · rw [e] at b0 b1 o0 o1
      by_cases hs : Sat s cs[i]
      · obtain ⟨t, ht, h1⟩ := hs
        exact .inl ⟨t, ht, h1⟩
      · refine .inr ⟨_, _, b0, b1, bne, ?_, ?_⟩
        · rintro ⟨h1, h2⟩
          rcases o0 (by simpa using h2) with (h3 | ⟨_, h3⟩) | h3
          · rw [hq] at h3; simp at h3
          · simp at h3
          · exact hs h3
        · rintro ⟨h1, h2⟩
          rcases o1 (by simpa using h2) with (h3 | ⟨_, h3⟩) | h3
          · rw [hq] at h3; simp at h3
          · simp at h3
          · exact hs h3
end
end U
end Go.Proofs.YtfhodbnhaaiceaaDoor
end
