/- Closed cases of unit propagation, by reckoning; the reference's unit, plain. -/
import Derived.Test.YtoffhaamkhfdeaaUD
namespace Go.Proofs.Ytoffhaamkhfdeaa
namespace U

/-- Literals that follow at once. -/
def more (cs : List (List Int)) (K : List Int) : List Int := cs.flatMap fun c => c.filter fun x => c.all fun y => y == x || K.contains (-y)
def clo (cs : List (List Int)) (A : List Int) : Nat → List Int
  | 0 => A
  | n + 1 => clo cs A n ++ more cs (clo cs A n)
theorem clo_der (cs : List (List Int)) (A : List Int) : ∀ n, ∀ x ∈ clo cs A n, Der cs A x
  | 0, x, h => .assume h
  | n + 1, x, h => by
    simp only [clo, List.mem_append] at h
    rcases h with h | h
    · exact clo_der cs A n x h
    · simp only [more, List.mem_flatMap, List.mem_filter, List.all_eq_true, Bool.or_eq_true, beq_iff_eq, List.contains_iff_mem] at h
      obtain ⟨c, hc, hx, hy⟩ := h
      exact .unit hc hx fun y hyc hne => clo_der cs A n _ ((hy y hyc).resolve_left hne)
def closedB (cs : List (List Int)) (A K : List Int) : Bool :=
  A.all (fun x => K.contains x) && K.all (fun x => !K.contains (-x)) && cs.all fun c => c.any (fun x => K.contains x) || c.any fun a => c.any fun b => a != b && !K.contains (-a) && !K.contains (-b)
theorem closed_of {cs : List (List Int)} {A K : List Int} (h : closedB cs A K = true) : Closed cs A (· ∈ K) := by
  simp only [closedB, Bool.and_eq_true, List.all_eq_true, List.contains_iff_mem, Bool.or_eq_true, List.any_eq_true, bne_iff_ne, ne_eq, Bool.not_eq_true', Bool.eq_false_iff] at h
  obtain ⟨⟨h1, h2⟩, h3⟩ := h
  refine ⟨h1, fun x hx hn => h2 x hx hn, fun c hc => ?_⟩
  rcases h3 c hc with ⟨t, ht, hk⟩ | ⟨a, ha, b, hb, ⟨hab, h4⟩, h5⟩
  · exact .inl ⟨t, ht, hk⟩
  · exact .inr ⟨a, b, ha, hb, hab, h4, h5⟩
def litsB (n : Nat) (K : List Int) : List Int := ((List.range (n + 1)).map fun v : Nat => if K.contains (v : Int) then (v : Int) else if K.contains (-(v : Int)) then -(v : Int) else 0).filter (· ≠ 0)
theorem lits_list (n : Nat) (K : List Int) : lits n (· ∈ K) = litsB n K := by
  unfold lits litsB
  congr 1
  apply List.map_congr_left
  intro v _
  unfold pickL
  by_cases h1 : (v : Int) ∈ K
  · simp [h1]
  · by_cases h2 : -(v : Int) ∈ K
    · simp [h1, h2]
    · simp [h1, h2]
theorem unitsOf_run (n k : Nat) (cs : List (List Int)) (A : List Int) (h : closedB cs A (clo cs A k) = true) : unitsOf n cs A = some (litsB n (clo cs A k)) := by
  rw [unitsOf_closed (closed_of h) (clo_der cs A k), lits_list]
def badB (cs : List (List Int)) (A K : List Int) : Bool := A.any (fun x => A.contains (-x)) || cs.any fun c => c.all fun y => K.contains (-y)
theorem unitsOf_fails (n k : Nat) (cs : List (List Int)) (A : List Int) (h : badB cs A (clo cs A k) = true) : unitsOf n cs A = none := by
  apply unitsOf_bad
  simp only [badB, Bool.or_eq_true, List.any_eq_true, List.contains_iff_mem, List.all_eq_true] at h
  rcases h with ⟨x, h1, h2⟩ | ⟨c, hc, hy⟩
  · exact .inl ⟨x, h1, h2⟩
  · exact .inr ⟨c, hc, fun y hyc => clo_der cs A k _ (hy y hyc)⟩

def threeL : List (List Int) := [[1, 2], [-1, 3], [-2, -3]]
theorem three_known : unitsOf 3 threeL [1] = some [1, -2, 3] := unitsOf_run 3 3 _ _ (by decide)

/-! ### the reference's unit -/
def unitP (K : Int → Bool) : Int → List Int → Int × Bool
  | last, [] => (last, decide (last ≠ 0))
  | last, x :: r => if K (-x) || x == last then unitP K last r else if K x || last != 0 then (0, true) else unitP K x r

/-- A clause from which nothing follows. -/
def OkC (K : Int → Bool) (c : List Int) : Prop := (∃ t ∈ c, K t = true) ∨ ∃ a b, a ∈ c ∧ b ∈ c ∧ a ≠ b ∧ K (-a) = false ∧ K (-b) = false

theorem unitP_spec (K : Int → Bool) (c : List Int) (hz : ∀ x ∈ c, x ≠ 0) : ∀ (r : List Int) (last : Int), (∀ x ∈ r, x ∈ c) → (last = 0 ∨ (last ∈ c ∧ K last = false ∧ K (-last) = false)) →
    let p := unitP K last r
    (p.2 = false → p.1 = 0 ∧ last = 0 ∧ ∀ y ∈ r, K (-y) = true) ∧
    (p.2 = true → p.1 ≠ 0 → p.1 ∈ c ∧ K p.1 = false ∧ K (-p.1) = false ∧ (last ≠ 0 → p.1 = last) ∧ ∀ y ∈ r, y ≠ p.1 → K (-y) = true) ∧
    (p.2 = true → p.1 = 0 → OkC K c)
  | [], last, _, hl => by
    simp only [unitP]
    refine ⟨fun h => ?_, fun h h1 => ?_, fun h h1 => ?_⟩
    · simp at h
      exact ⟨h, h, by simp⟩
    · rcases hl with h2 | ⟨a, b, d⟩
      · exact absurd h2 h1
      · exact ⟨a, b, d, fun _ => by simp, by simp⟩
    · simp at h
      exact absurd h1 h
  | x :: r, last, hr, hl => by
    have hrr : ∀ y ∈ r, y ∈ c := fun y hy => hr y (by simp [hy])
    simp only [unitP]
    by_cases h1 : (K (-x) || x == last) = true
    · rw [if_pos h1]
      obtain ⟨a, b, d⟩ := unitP_spec K c hz r last hrr hl
      simp only [Bool.or_eq_true, beq_iff_eq] at h1
      have hx0 := hz x (hr x (by simp))
      refine ⟨fun h => ?_, fun h h2 => ?_, d⟩
      · obtain ⟨e1, e2, e3⟩ := a h
        refine ⟨e1, e2, fun y hy => ?_⟩
        rcases List.mem_cons.1 hy with rfl | hy
        · exact h1.resolve_right (fun e => hx0 (e.trans e2))
        · exact e3 y hy
      · obtain ⟨e1, e2, e3, e4, e5⟩ := b h h2
        refine ⟨e1, e2, e3, e4, fun y hy hne => ?_⟩
        rcases List.mem_cons.1 hy with rfl | hy
        · refine h1.resolve_right (fun e => hne ?_)
          rw [e4 (by rw [← e]; exact hx0), e]
        · exact e5 y hy hne
    · rw [if_neg h1]
      simp only [Bool.or_eq_true, beq_iff_eq, not_or, Bool.not_eq_true] at h1
      by_cases h2 : (K x || last != 0) = true
      · rw [if_pos h2]
        refine ⟨fun h => absurd h (by simp), fun _ h => absurd rfl h, fun _ _ => ?_⟩
        simp only [Bool.or_eq_true, bne_iff_ne] at h2
        rcases h2 with h3 | h3
        · exact .inl ⟨x, hr x (by simp), h3⟩
        · rcases hl with h4 | ⟨h4, _, h5⟩
          · exact absurd h4 h3
          · exact .inr ⟨last, x, h4, hr x (by simp), fun e => h1.2 e.symm, h5, h1.1⟩
      · rw [if_neg h2]
        simp only [Bool.or_eq_true, bne_iff_ne, not_or, Bool.not_eq_true, ne_eq, Classical.not_not] at h2
        have hx0 := hz x (hr x (by simp))
        obtain ⟨a, b, d⟩ := unitP_spec K c hz r x hrr (.inr ⟨hr x (by simp), h2.1, h1.1⟩)
        refine ⟨fun h => absurd (a h).2.1 hx0, fun h h3 => ?_, d⟩
        obtain ⟨e1, e2, e3, e4, e5⟩ := b h h3
        refine ⟨e1, e2, e3, fun h4 => absurd h2.2 h4, fun y hy hne => ?_⟩
        rcases List.mem_cons.1 hy with rfl | hy
        · exact absurd (e4 hx0).symm hne
        · exact e5 y hy hne

/-- The literal of a variable. -/
def pickB (K : Int → Bool) (v : Nat) : Int := if K (v : Int) then v else if K (-(v : Int)) then -(v : Int) else 0
/-- What the reference knows. -/
structure RInv (n : Nat) (cs : List (List Int)) (A : List Int) (K : Int → Bool) (sz : Nat) : Prop where
  snd : ∀ y, K y = true → Der cs A y
  con : ∀ y, K y = true → K (-y) = false
  rng : ∀ y, K y = true → y ≠ 0 ∧ y.natAbs ≤ n
  cnt : sz + unk (pickB K) n = n

theorem pickB_upd {K : Int → Bool} {l : Int} (h0 : l ≠ 0) (hk : K l = false) (hn : K (-l) = false) (_hz : K 0 = false) : pickB (upd K l true) = upd (pickB K) l.natAbs l ∧ pickB K l.natAbs = 0 := by
  constructor
  · funext v
    unfold pickB
    by_cases e : v = l.natAbs
    · subst e
      rw [upd_same]
      rcases Int.le_total 0 l with h | h
      · have e : (l.natAbs : Int) = l := by omega
        rw [e, upd_same]; rfl
      · have e : (l.natAbs : Int) = -l := by omega
        rw [e, upd_ne (by omega), hn, Int.neg_neg, upd_same]; rfl
    · rw [upd_ne e, upd_ne (show (v : Int) ≠ l by omega), upd_ne (show -(v : Int) ≠ l by omega)]
  · unfold pickB
    rcases Int.le_total 0 l with h | h
    · have e : (l.natAbs : Int) = l := by omega
      rw [e, hk, hn]; rfl
    · have e : (l.natAbs : Int) = -l := by omega
      rw [e, hn, Int.neg_neg, hk]; rfl

section
variable {n : Nat} {cs : List (List Int)} {A : List Int} {K : Int → Bool} {sz : Nat}
theorem RInv.zero (h : RInv n cs A K sz) : K 0 = false := by
  cases e : K 0
  · rfl
  · exact absurd rfl (h.rng 0 e).1
theorem RInv.le (h : RInv n cs A K sz) : sz ≤ n := by have := h.cnt; omega
theorem RInv.start (n : Nat) (cs : List (List Int)) (A : List Int) : RInv n cs A (fun _ => false) 0 := by
  have e : pickB (fun _ => false) = fun _ => 0 := by funext v; simp [pickB]
  exact ⟨fun y h => absurd h (by simp), fun y h => absurd h (by simp), fun y h => absurd h (by simp), by rw [e, unk_zero]; omega⟩
theorem RInv.add (h : RInv n cs A K sz) {l : Int} (h0 : l ≠ 0) (hl : l.natAbs ≤ n) (hk : K l = false) (hn : K (-l) = false) (hd : Der cs A l) : RInv n cs A (upd K l true) (sz + 1) := by
  obtain ⟨e1, e2⟩ := pickB_upd h0 hk hn h.zero
  refine ⟨fun y hy => ?_, fun y hy => ?_, fun y hy => ?_, ?_⟩
  · by_cases e : y = l
    · exact e ▸ hd
    · rw [upd_ne e] at hy; exact h.snd y hy
  · by_cases e : y = l
    · rw [e, upd_ne (by omega)]; exact hn
    · rw [upd_ne e] at hy
      by_cases e3 : -y = l
      · rw [← e3] at hn; rw [Int.neg_neg] at hn; rw [hn] at hy; cases hy
      · rw [upd_ne e3]; exact h.con y hy
  · by_cases e : y = l
    · exact e ▸ ⟨h0, hl⟩
    · rw [upd_ne e] at hy; exact h.rng y hy
  · rw [e1]
    have := unk_upd (n := n) e2 h0 (by omega) hl
    have := h.cnt
    omega
theorem RInv.same {l : Int} (hk : K l = true) : upd K l true = K := by
  funext y
  by_cases e : y = l
  · rw [e, upd_same, hk]
  · rw [upd_ne e]
theorem RInv.closed (h : RInv n cs A K sz) (ha : ∀ a ∈ A, K a = true) (hc : ∀ c ∈ cs, OkC K c) : Closed cs A fun y => K y = true := by
  refine ⟨ha, fun x hx h2 => absurd h2 (by rw [h.con x hx]; simp), fun c hcc => ?_⟩
  rcases hc c hcc with h1 | ⟨a, b, h1, h2, h3, h4, h5⟩
  · exact .inl h1
  · exact .inr ⟨a, b, h1, h2, h3, by rw [h4]; simp, by rw [h5]; simp⟩
/-- What follows from a clause. -/
theorem RInv.unit (h : RInv n cs A K sz) {c : List Int} (hc : c ∈ cs) (hv : Val n c) :
    ((unitP K 0 c).2 = false → Bad cs A) ∧
    ((unitP K 0 c).2 = true → (unitP K 0 c).1 ≠ 0 → RInv n cs A (upd K (unitP K 0 c).1 true) (sz + 1) ∧ K (unitP K 0 c).1 = false ∧ (unitP K 0 c).1.natAbs ≤ n) ∧
    ((unitP K 0 c).2 = true → (unitP K 0 c).1 = 0 → OkC K c) := by
  obtain ⟨a, b, d⟩ := unitP_spec K c (fun x hx => (hv x hx).1) c 0 (fun x hx => hx) (.inl rfl)
  refine ⟨fun h1 => .inr ⟨c, hc, fun y hy => h.snd _ ((a h1).2.2 y hy)⟩, fun h1 h2 => ?_, d⟩
  obtain ⟨e1, e2, e3, _, e5⟩ := b h1 h2
  exact ⟨h.add h2 (hv _ e1).2 e2 e3 (.unit hc e1 fun y hy hne => h.snd _ (e5 y hy hne)), e2, (hv _ e1).2⟩
end
end U
end Go.Proofs.Ytoffhaamkhfdeaa
