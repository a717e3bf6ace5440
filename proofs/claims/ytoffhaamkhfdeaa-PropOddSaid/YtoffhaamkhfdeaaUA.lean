/- Unit propagation, plain: what follows, what fails, and when a set of literals is all that follows. -/
import Derived.Test.YtoffhaamkhfdeaaK
namespace Go.Proofs.Ytoffhaamkhfdeaa
namespace U

/-- What follows by unit propagation. -/
inductive Der (cs : List (List Int)) (asm : List Int) : Int → Prop
  | assume {x : Int} : x ∈ asm → Der cs asm x
  | unit {c : List Int} {x : Int} : c ∈ cs → x ∈ c → (∀ y ∈ c, y ≠ x → Der cs asm (-y)) → Der cs asm x
/-- It fails. -/
def Bad (cs : List (List Int)) (asm : List Int) : Prop := (∃ x, x ∈ asm ∧ -x ∈ asm) ∨ ∃ c ∈ cs, ∀ y ∈ c, Der cs asm (-y)

/-- A set of literals that is closed. -/
structure Closed (cs : List (List Int)) (asm : List Int) (T : Int → Prop) : Prop where
  has : ∀ x ∈ asm, T x
  con : ∀ x, T x → ¬ T (-x)
  cl : ∀ c ∈ cs, (∃ t ∈ c, T t) ∨ ∃ a b, a ∈ c ∧ b ∈ c ∧ a ≠ b ∧ ¬ T (-a) ∧ ¬ T (-b)

section
variable {cs : List (List Int)} {asm : List Int} {T : Int → Prop}
theorem Closed.of_der (h : Closed cs asm T) {x : Int} (hd : Der cs asm x) : T x := by
  induction hd with
  | assume hx => exact h.has _ hx
  | @unit c x hc hx _ ih =>
    rcases h.cl c hc with ⟨t, ht, hT⟩ | ⟨a, b, ha, hb, hab, h1, h2⟩
    · by_cases e : t = x
      · exact e ▸ hT
      · exact absurd (ih t ht e) (h.con t hT)
    · by_cases e : a = x
      · exact absurd (ih b hb (fun e2 => hab (e.trans e2.symm))) h2
      · exact absurd (ih a ha e) h1
theorem Closed.good (h : Closed cs asm T) : ¬ Bad cs asm := by
  rintro (⟨x, h1, h2⟩ | ⟨c, hc, hy⟩)
  · exact h.con x (h.has _ h1) (h.has _ h2)
  · rcases h.cl c hc with ⟨t, ht, hT⟩ | ⟨a, b, ha, hb, hab, h1, h2⟩
    · exact h.con t hT (h.of_der (hy t ht))
    · exact h1 (h.of_der (hy a ha))
theorem Der.mono {cs' : List (List Int)} {asm' : List Int} (h1 : ∀ c ∈ cs, c ∈ cs') (h2 : ∀ x ∈ asm, x ∈ asm') {x : Int} (h : Der cs asm x) : Der cs' asm' x := by
  induction h with
  | assume hx => exact .assume (h2 _ hx)
  | unit hc hx _ ih => exact .unit (h1 _ hc) hx ih
theorem Bad.mono {cs' : List (List Int)} {asm' : List Int} (h1 : ∀ c ∈ cs, c ∈ cs') (h2 : ∀ x ∈ asm, x ∈ asm') (h : Bad cs asm) : Bad cs' asm' := by
  rcases h with ⟨x, a, b⟩ | ⟨c, hc, hy⟩
  · exact .inl ⟨x, h2 _ a, h2 _ b⟩
  · exact .inr ⟨c, h1 _ hc, fun y hy' => (hy y hy').mono h1 h2⟩
/-- What follows, assumed, gives nothing more. -/
theorem Der.again {asm' : List Int} (h : ∀ x ∈ asm', Der cs asm x) {x : Int} (hd : Der cs asm' x) : Der cs asm x := by
  induction hd with
  | assume hx => exact h _ hx
  | unit hc hx _ ih => exact .unit hc hx ih
theorem Der.valid {n : Int} (hc : ∀ c ∈ cs, ∀ x ∈ c, x ≠ 0 ∧ -n ≤ x ∧ x ≤ n) (ha : ∀ x ∈ asm, x ≠ 0 ∧ -n ≤ x ∧ x ≤ n) {x : Int} (h : Der cs asm x) : x ≠ 0 ∧ -n ≤ x ∧ x ≤ n := by
  cases h with
  | assume hx => exact ha _ hx
  | unit h1 h2 _ => exact hc _ h1 _ h2
/-- Where it does not fail no literal and its negative follow. -/
theorem Der.con (hb : ¬ Bad cs asm) {x : Int} (h : Der cs asm x) : ¬ Der cs asm (-x) := by
  intro h2
  cases h with
  | assume hx =>
    cases h2 with
    | assume hx2 => exact hb (.inl ⟨x, hx, hx2⟩)
    | @unit c _ hc hm hy =>
      refine hb (.inr ⟨c, hc, fun y hyc => ?_⟩)
      by_cases e : y = -x
      · subst e; rw [Int.neg_neg]; exact .assume hx
      · exact hy y hyc e
  | @unit c _ hc hm hy =>
    refine hb (.inr ⟨c, hc, fun y hyc => ?_⟩)
    by_cases e : y = x
    · subst e; exact h2
    · exact hy y hyc e
/-- What follows is closed. -/
theorem Der.closed (hb : ¬ Bad cs asm) (_hz : ∀ c ∈ cs, ∀ x ∈ c, x ≠ 0) : Closed cs asm (Der cs asm) := by
  refine ⟨fun x hx => .assume hx, fun x h => h.con hb, fun c hc => ?_⟩
  apply Classical.byContradiction
  intro h
  rw [not_or] at h
  obtain ⟨h1, h2⟩ := h
  -- some literal is not false
  have ⟨a, ha, hna⟩ : ∃ a ∈ c, ¬ Der cs asm (-a) := by
    apply Classical.byContradiction
    intro h3
    exact hb (.inr ⟨c, hc, fun y hy => Classical.byContradiction fun h4 => h3 ⟨y, hy, h4⟩⟩)
  refine h1 ⟨a, ha, .unit hc ha fun y hy hne => Classical.byContradiction fun h4 => h2 ⟨a, y, ha, hy, fun e => hne e.symm, hna, h4⟩⟩
end

/-- The literal of a variable that is in a set; 0: none. -/
noncomputable def pickL (T : Int → Prop) (v : Nat) : Int := open Classical in if T (v : Int) then v else if T (-(v : Int)) then -(v : Int) else 0
/-- The literals of a set, by variables. -/
noncomputable def lits (n : Nat) (T : Int → Prop) : List Int := ((List.range (n + 1)).map (pickL T)).filter (· ≠ 0)
/-- What Units finds: none: it fails. -/
noncomputable def unitsOf (n : Nat) (cs : List (List Int)) (asm : List Int) : Option (List Int) := open Classical in if Bad cs asm then none else some (lits n (Der cs asm))

theorem pickL_congr {T T' : Int → Prop} (h : ∀ x, T x ↔ T' x) : pickL T = pickL T' := by
  have : T = T' := funext fun x => propext (h x)
  rw [this]
theorem lits_congr {n : Nat} {T T' : Int → Prop} (h : ∀ x, T x ↔ T' x) : lits n T = lits n T' := by
  have : T = T' := funext fun x => propext (h x)
  rw [this]
theorem unitsOf_bad {n : Nat} {cs : List (List Int)} {asm : List Int} (h : Bad cs asm) : unitsOf n cs asm = none := by simp [unitsOf, h]
theorem unitsOf_good {n : Nat} {cs : List (List Int)} {asm : List Int} (h : ¬ Bad cs asm) : unitsOf n cs asm = some (lits n (Der cs asm)) := by simp [unitsOf, h]
theorem unitsOf_closed {n : Nat} {cs : List (List Int)} {asm : List Int} {T : Int → Prop} (h : Closed cs asm T) (hs : ∀ x, T x → Der cs asm x) : unitsOf n cs asm = some (lits n T) := by
  rw [unitsOf_good h.good]
  exact congrArg some (lits_congr fun x => ⟨fun hd => h.of_der hd, hs x⟩)
/-- Whatever has the same consequences has the same answer. -/
theorem unitsOf_congr {n : Nat} {cs cs' : List (List Int)} {asm asm' : List Int} (hb : Bad cs asm ↔ Bad cs' asm') (hd : ∀ x, Der cs asm x ↔ Der cs' asm' x) : unitsOf n cs asm = unitsOf n cs' asm' := by
  by_cases h : Bad cs asm
  · rw [unitsOf_bad h, unitsOf_bad (hb.1 h)]
  · rw [unitsOf_good h, unitsOf_good (fun h' => h (hb.2 h'))]
    exact congrArg some (lits_congr hd)

theorem mem_lits {n : Nat} {T : Int → Prop} (hz : ¬ T 0) (hr : ∀ x, T x → -(n : Int) ≤ x ∧ x ≤ n) (hc : ∀ x, T x → ¬ T (-x)) (x : Int) : x ∈ lits n T ↔ T x := by
  simp only [lits, List.mem_filter, List.mem_map, List.mem_range, ne_eq, decide_not, Bool.not_eq_true', decide_eq_false_iff_not]
  constructor
  · rintro ⟨⟨v, hv, rfl⟩, hne⟩
    unfold pickL at hne ⊢
    by_cases h1 : T (v : Int)
    · simp [h1]
    · by_cases h2 : T (-(v : Int))
      · simp [h1, h2]
      · simp [h1, h2] at hne
  · intro hx
    have hx0 : x ≠ 0 := fun e => hz (e ▸ hx)
    refine ⟨⟨x.natAbs, by have := hr x hx; omega, ?_⟩, hx0⟩
    unfold pickL
    rcases Int.le_total 0 x with h | h
    · have e : (x.natAbs : Int) = x := by omega
      simp [e, hx]
    · have e : (x.natAbs : Int) = -x := by omega
      have h1 := hc x hx
      simp [e, hx, h1]
theorem natAbs_pickL (T : Int → Prop) (v : Nat) (h : pickL T v ≠ 0) : (pickL T v).natAbs = v := by
  unfold pickL at h ⊢
  split
  · omega
  · split
    · omega
    · rename_i h1 h2; simp [h1, h2] at h
/-- By variables: their absolute values grow. -/
theorem lits_pairwise (n : Nat) (T : Int → Prop) : (lits n T).Pairwise fun x y => x.natAbs < y.natAbs := by
  unfold lits
  rw [List.pairwise_filter, List.pairwise_map]
  refine List.Pairwise.imp ?_ (List.pairwise_lt_range (n := n + 1))
  intro a b hab h1 h2
  have e1 := natAbs_pickL T a (by simpa using h1)
  have e2 := natAbs_pickL T b (by simpa using h2)
  omega
theorem lits_length (n : Nat) (T : Int → Prop) : (lits n T).length ≤ n + 1 := by
  unfold lits
  refine Nat.le_trans (List.length_filter_le _ _) (by simp)
end U
end Go.Proofs.Ytoffhaamkhfdeaa
